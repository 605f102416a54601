// Package order has things in the order in which they came.
package order

// Numbered is a set that numbers its members as they come, from 0 on.
type Numbered[T comparable] struct {
	numbers map[T]int
	members []T
}

// Number tells the number of a member; what was no member yet becomes one.
func (n *Numbered[T]) Number(member T) int {
	number, known := n.numbers[member]
	if known {
		return number
	}
	if n.numbers == nil {
		n.numbers = make(map[T]int)
	}
	number = len(n.members)
	n.numbers[member] = number
	n.members = append(n.members, member)
	return number
}

// Has tells whether that is a member, and does not make it one.
func (n *Numbered[T]) Has(member T) bool {
	_, known := n.numbers[member]
	return known
}

// Member tells the member of a number, which must be below Count.
func (n *Numbered[T]) Member(number int) T {
	return n.members[number]
}

// Count tells how many members there are.
func (n *Numbered[T]) Count() int {
	return len(n.members)
}

// Worklist gives out everything that was put into it, once, in the order in which it came.
type Worklist[T comparable] struct {
	known Numbered[T]
	taken int
}

// Put tells the number of a thing; if it never came before, Take will give it out.
func (w *Worklist[T]) Put(thing T) int {
	return w.known.Number(thing)
}

// Take gives out the next thing; false, if all have been given out.
func (w *Worklist[T]) Take() (T, bool) {
	if w.taken == w.known.Count() {
		var none T
		return none, false
	}
	thing := w.known.Member(w.taken)
	w.taken++
	return thing, true
}

// Has tells whether a thing ever came.
func (w *Worklist[T]) Has(thing T) bool {
	return w.known.Has(thing)
}

// Count tells how many things came, those that were given out too.
func (w *Worklist[T]) Count() int {
	return w.known.Count()
}

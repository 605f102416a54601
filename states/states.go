// Package states makes of rules the states to which texts lead.
package states

import (
	"gleaner/api"
	"gleaner/order"
	"gleaner/pattern"
	"gleaner/sets"
)

// None stands in a table where there is no state, or no rule.
const None = -1

// state is what is known of a text that leads there.
type state struct {
	open  sets.Set // the positions that may come next
	whole sets.Set // the rules that match the text
}

type builder struct {
	positions *pattern.Positions
	rules     []pattern.Part
	kinds     order.Numbered[sets.Set] // of each class the positions that match its bytes
	work      order.Worklist[state]
}

// Table makes a table of all states that the rules, read into the positions, can come to; false, if there are too many.
func Table(positions *pattern.Positions, rules []pattern.Part) (api.Table, bool) {
	b := builder{positions: positions, rules: rules}
	table := api.Table{Classes: b.classes()}
	b.work.Put(b.first())
	for s, more := b.work.Take(); more; s, more = b.work.Take() {
		table.Next = append(table.Next, b.row(s))
		table.Accept = append(table.Accept, b.accept(s))
		// Asked at each state, as there can be far too many to make them all.
		if b.work.Count() > api.MaxStates {
			return api.Table{}, false
		}
	}
	return table, true
}

// classes has one class for all bytes that the same positions match: such bytes lead from each state to the same one.
func (b *builder) classes() [sets.Count]int {
	var classes [sets.Count]int
	for i := range classes {
		classes[i] = b.kinds.Number(b.positions.Taking(byte(i)))
	}
	return classes
}

// first is without rules even if one matches the text of no bytes, as that is no token.
func (b *builder) first() state {
	var start state
	for _, rule := range b.rules {
		start.open = sets.Union(start.open, rule.First)
	}
	return start
}

func (b *builder) row(s state) []int {
	row := make([]int, b.kinds.Count())
	for class := range row {
		row[class] = b.number(b.next(s, b.kinds.Member(class)))
	}
	return row
}

func (b *builder) next(s state, kind sets.Set) state {
	hit := s.open.Common(kind)
	next := state{open: b.positions.Behind(hit)}
	for i, rule := range b.rules {
		if hit.Meets(rule.Last) {
			next.whole = sets.Union(next.whole, sets.One(uint8(i)))
		}
	}
	return next
}

func (b *builder) number(s state) int {
	if s == (state{}) {
		return None
	}
	return b.work.Put(s)
}

func (b *builder) accept(s state) int {
	for i := range b.rules {
		if s.whole.Has(uint8(i)) {
			return i
		}
	}
	return None
}

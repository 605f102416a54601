// Package smallest makes of a table the smallest one by which all texts lead to the same rules.
package smallest

import (
	"slices"

	"gleaner/api"
	"gleaner/order"
	"gleaner/states"
)

// pair is two numbers; of states the lower one goes first, and None is below them all.
type pair struct{ first, second int }

func inOrder(a, b int) pair {
	return pair{min(a, b), max(a, b)}
}

// merger finds out which states of a table are one.
// None is one of its states, so that a state from which no token can be reached is one with it.
type merger struct {
	table   api.Table
	origins [][][]int            // see from
	apart   order.Worklist[pair] // pairs from which some text leads to different rules
}

// Table takes a table whose first state is 0 and whose classes are numbered by their least bytes.
func Table(table api.Table) api.Table {
	m := merger{table: table}
	m.trace()
	m.part()
	rows, accept := m.walk(m.leasts())
	classes := merged(rows)
	small := api.Table{Accept: accept}
	for b, class := range table.Classes {
		small.Classes[b] = classes[class]
	}
	for _, row := range rows {
		small.Next = append(small.Next, narrowed(row, classes))
	}
	return small
}

func (m *merger) next(state, class int) int {
	if state == states.None {
		return states.None
	}
	return m.table.Next[state][class]
}

func (m *merger) accept(state int) int {
	if state == states.None {
		return states.None
	}
	return m.table.Accept[state]
}

// from has of a state the states that lead there, class by class.
func (m *merger) from(state int) [][]int {
	return m.origins[state-states.None]
}

func (m *merger) trace() {
	classes := len(m.table.Next[0])
	for range len(m.table.Next) - states.None {
		m.origins = append(m.origins, make([][]int, classes))
	}
	for state := states.None; state < len(m.table.Next); state++ {
		for class := range classes {
			origins := m.from(m.next(state, class))
			origins[class] = append(origins[class], state)
		}
	}
}

// part goes backwards from the pairs that their own rules hold apart, so that each pair is looked at once.
func (m *merger) part() {
	for second := range m.table.Next {
		for first := states.None; first < second; first++ {
			if m.accept(first) != m.accept(second) {
				m.apart.Put(pair{first, second})
			}
		}
	}
	for p, more := m.apart.Take(); more; p, more = m.apart.Take() {
		m.partOrigins(p)
	}
}

func (m *merger) partOrigins(p pair) {
	seconds := m.from(p.second)
	for class, firsts := range m.from(p.first) {
		for _, a := range firsts {
			for _, b := range seconds[class] {
				m.apart.Put(inOrder(a, b))
			}
		}
	}
}

// leasts has of each state the least that is one with it.
func (m *merger) leasts() []int {
	leasts := make([]int, len(m.table.Next))
	for state := range leasts {
		least := states.None
		// This ends at the state itself, from which it is not apart.
		for m.apart.Has(pair{least, state}) {
			least++
		}
		leasts[state] = least
	}
	return leasts
}

// walk tells the rows and rules of the states that are left, in the order in which they are come to.
func (m *merger) walk(leasts []int) ([][]int, []int) {
	var rows [][]int
	var accept []int
	var work order.Worklist[int]
	// The first state is there even if it is one with None.
	work.Put(0)
	for state, more := work.Take(); more; state, more = work.Take() {
		row := slices.Clone(m.table.Next[state])
		for class, next := range row {
			if next != states.None {
				next = leasts[next]
			}
			if next != states.None {
				next = work.Put(next)
			}
			row[class] = next
		}
		rows = append(rows, row)
		accept = append(accept, m.table.Accept[state])
	}
	return rows, accept
}

// merged tells of each class a number that it has in common with those that lead from each state to the same one.
// As classes come by their least bytes, they are numbered by these again.
func merged(rows [][]int) []int {
	numbers := make([]int, len(rows[0]))
	for _, row := range rows {
		var parts order.Numbered[pair]
		for class, next := range row {
			numbers[class] = parts.Number(pair{numbers[class], next})
		}
	}
	return numbers
}

func narrowed(row []int, classes []int) []int {
	narrow := make([]int, slices.Max(classes)+1)
	for class, next := range row {
		narrow[classes[class]] = next
	}
	return narrow
}

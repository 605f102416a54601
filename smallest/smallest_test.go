package smallest

import (
	"reflect"
	"slices"
	"testing"

	"gleaner/api"
	"gleaner/states"
)

// classesOf has the bytes of the first text in class 1, those of the second in 2, and so on; all others in 0.
func classesOf(texts ...string) [256]int {
	var classes [256]int
	for i, text := range texts {
		for _, b := range []byte(text) {
			classes[b] = i + 1
		}
	}
	return classes
}

func TestSmallest(t *testing.T) {
	ab := classesOf("a", "b")
	for name, c := range map[string]struct{ given, want api.Table }{
		"one state": {
			api.Table{Classes: ab, Next: [][]int{{-1, -1, -1}}, Accept: []int{-1}},
			api.Table{Next: [][]int{{-1}}, Accept: []int{-1}},
		},
		"smallest already": {
			api.Table{Classes: ab, Next: [][]int{{-1, 0, 1}, {-1, -1, -1}}, Accept: []int{-1, 0}},
			api.Table{Classes: ab, Next: [][]int{{-1, 0, 1}, {-1, -1, -1}}, Accept: []int{-1, 0}},
		},
		"states of one rule that end": {
			api.Table{Classes: ab, Next: [][]int{{-1, 1, 2}, {-1, -1, -1}, {-1, -1, -1}}, Accept: []int{-1, 0, 0}},
			api.Table{Classes: classesOf("ab"), Next: [][]int{{-1, 1}, {-1, -1}}, Accept: []int{-1, 0}},
		},
		"states of two rules": {
			api.Table{Classes: ab, Next: [][]int{{-1, 1, 2}, {-1, -1, -1}, {-1, -1, -1}}, Accept: []int{-1, 1, 0}},
			api.Table{Classes: ab, Next: [][]int{{-1, 1, 2}, {-1, -1, -1}, {-1, -1, -1}}, Accept: []int{-1, 1, 0}},
		},
		"the first state is one with another": {
			api.Table{Classes: ab, Next: [][]int{{-1, 1, 2}, {-1, 1, 2}, {-1, -1, -1}}, Accept: []int{-1, -1, 0}},
			api.Table{Classes: ab, Next: [][]int{{-1, 0, 1}, {-1, -1, -1}}, Accept: []int{-1, 0}},
		},
		"only accepting holds the first state apart": {
			api.Table{Classes: ab, Next: [][]int{{-1, 1, -1}, {-1, 2, -1}, {-1, 1, -1}}, Accept: []int{-1, 3, 3}},
			api.Table{Classes: classesOf("a"), Next: [][]int{{-1, 1}, {-1, 1}}, Accept: []int{-1, 3}},
		},
		"a loop that never accepts": {
			api.Table{Classes: ab, Next: [][]int{{1, 2, 1}, {3, 3, 1}, {-1, -1, 3}, {1, 1, 1}}, Accept: []int{-1, -1, 0, -1}},
			api.Table{Classes: classesOf("a"), Next: [][]int{{-1, 1}, {-1, -1}}, Accept: []int{-1, 0}},
		},
		"nothing ever accepts": {
			api.Table{Classes: ab, Next: [][]int{{1, 0, -1}, {0, 1, 1}}, Accept: []int{-1, -1}},
			api.Table{Next: [][]int{{-1}}, Accept: []int{-1}},
		},
		"a state that is not come to": {
			api.Table{Classes: ab, Next: [][]int{{-1, 2, -1}, {1, 1, 1}, {-1, -1, -1}}, Accept: []int{-1, 1, 0}},
			api.Table{Classes: classesOf("a"), Next: [][]int{{-1, 1}, {-1, -1}}, Accept: []int{-1, 0}},
		},
		"states out of order": {
			api.Table{Classes: ab, Next: [][]int{{3, 2, 1}, {-1, -1, 4}, {4, -1, -1}, {-1, 4, -1}, {-1, -1, -1}}, Accept: []int{-1, -1, -1, -1, 5}},
			api.Table{Classes: ab, Next: [][]int{{1, 2, 3}, {-1, 4, -1}, {4, -1, -1}, {-1, -1, 4}, {-1, -1, -1}}, Accept: []int{-1, -1, -1, -1, 5}},
		},
		"told apart by the last of three bytes": {
			api.Table{Classes: ab, Next: [][]int{{-1, 1, 2}, {-1, 3, -1}, {-1, 4, -1}, {-1, 5, -1}, {-1, -1, 5}, {-1, -1, -1}}, Accept: []int{-1, -1, -1, -1, -1, 0}},
			api.Table{Classes: ab, Next: [][]int{{-1, 1, 2}, {-1, 3, -1}, {-1, 4, -1}, {-1, 5, -1}, {-1, -1, 5}, {-1, -1, -1}}, Accept: []int{-1, -1, -1, -1, -1, 0}},
		},
		"classes that are one, not next to each other": {
			api.Table{Classes: classesOf("a", "b", "c", "d"), Next: [][]int{{-1, 1, 2, 1, 2}, {-1, -1, -1, -1, -1}, {3, -1, 3, -1, 3}, {-1, -1, -1, -1, -1}}, Accept: []int{-1, 0, -1, 0}},
			api.Table{Classes: classesOf("ac", "bd"), Next: [][]int{{-1, 1, 2}, {-1, -1, -1}, {1, -1, 1}}, Accept: []int{-1, 0, -1}},
		},
	} {
		if got := Table(c.given); !reflect.DeepEqual(got, c.want) {
			t.Errorf("%s: %v, want %v", name, got, c.want)
		}
	}
}

// someTables are tables of all kinds, with states that are not come to, never accept or are one.
func someTables(count int) []api.Table {
	seed := 1
	pick := func(below int) int {
		seed = seed * 48271 % 2147483647
		return (seed >> 8) % below
	}
	var tables []api.Table
	for i := range count {
		table := api.Table{Classes: classesOf("a", "bx", "c")}
		size, rules := 1+i%12, 1+pick(3)
		for state := range size {
			row := make([]int, 4)
			for class := range row {
				row[class] = states.None
				if pick(3) > 0 {
					row[class] = pick(size)
				}
			}
			accept := states.None
			if state > 0 && pick(3) == 0 {
				accept = pick(rules)
			}
			table.Next, table.Accept = append(table.Next, row), append(table.Accept, accept)
		}
		tables = append(tables, table)
	}
	return tables
}

// checkSame walks both tables side by side, over all bytes, until no new pair of states comes.
// Where the smaller one has no next state, the other may only come to states that never accept.
func checkSame(t *testing.T, whole, small api.Table) {
	t.Helper()
	next := func(table api.Table, state, b int) int {
		if state == states.None {
			return states.None
		}
		return table.Next[state][table.Classes[b]]
	}
	accept := func(table api.Table, state int) int {
		if state == states.None {
			return states.None
		}
		return table.Accept[state]
	}
	seen := map[[2]int]bool{{0, 0}: true}
	work := [][2]int{{0, 0}}
	for len(work) > 0 {
		p := work[0]
		work = work[1:]
		if accept(whole, p[0]) != accept(small, p[1]) {
			t.Fatalf("%v tells another rule than %v, at %v", small, whole, p)
		}
		for b := range 256 {
			q := [2]int{next(whole, p[0], b), next(small, p[1], b)}
			if !seen[q] {
				seen[q] = true
				work = append(work, q)
			}
		}
	}
}

// kinds numbers the states by what texts of up to so many bytes tell of them; the last number is that of no state.
func kinds(table api.Table, length int) []int {
	kind := append(slices.Clone(table.Accept), states.None)
	last := len(kind) - 1
	for range length {
		numbers := map[string]int{}
		finer := make([]int, len(kind))
		for state := range kind {
			name := string(rune(kind[state] + 2))
			for class := range table.Next[0] {
				next := last
				if state != last && table.Next[state][class] != states.None {
					next = table.Next[state][class]
				}
				name += string(rune(kind[next] + 2))
			}
			if _, known := numbers[name]; !known {
				numbers[name] = len(numbers)
			}
			finer[state] = numbers[name]
		}
		kind = finer
	}
	return kind
}

func checkSmallest(t *testing.T, table api.Table) {
	t.Helper()
	all := kinds(table, len(table.Next)+1)
	for i, kind := range all {
		first := slices.Index(all, kind)
		// The first state may be one with no state.
		if first != i && (i != len(table.Next) || first != 0) {
			t.Fatalf("states %d and %d of %v are one", first, i, table)
		}
	}
}

func checkNumbers(t *testing.T, table api.Table) {
	t.Helper()
	count := 1
	for _, row := range table.Next {
		for _, next := range row {
			if next > count || next < states.None {
				t.Fatalf("state %d of %v comes too early", next, table)
			}
			count = max(count, next+1)
		}
	}
	if count != len(table.Next) {
		t.Fatalf("%d of the states of %v are come to", count, table)
	}
	count = 0
	for _, class := range table.Classes {
		if class > count || class < 0 {
			t.Fatalf("class %d of %v comes too early", class, table)
		}
		count = max(count, class+1)
	}
	columns := map[string]bool{}
	for class := range count {
		column := ""
		for _, row := range table.Next {
			if len(row) != count {
				t.Fatalf("a row of %v has not %d classes", table, count)
			}
			column += string(rune(row[class] + 1))
		}
		columns[column] = true
	}
	if len(columns) != count {
		t.Fatalf("two classes of %v are one", table)
	}
}

func TestSomeTables(t *testing.T) {
	sizes := map[int]int{}
	merged := 0
	for _, table := range someTables(4000) {
		small := Table(table)
		checkSame(t, table, small)
		checkSmallest(t, small)
		checkNumbers(t, small)
		if again := Table(small); !reflect.DeepEqual(again, small) {
			t.Fatalf("%v, made smallest once more, is %v", small, again)
		}
		sizes[len(small.Next)]++
		if len(small.Next) < len(table.Next) {
			merged++
		}
	}
	if len(sizes) < 10 || merged < 1000 {
		t.Errorf("the tables are too much alike: %v, %d merged", sizes, merged)
	}
}

func TestGivenTableStays(t *testing.T) {
	for _, table := range someTables(200) {
		before := api.Table{Classes: table.Classes, Accept: slices.Clone(table.Accept)}
		for _, row := range table.Next {
			before.Next = append(before.Next, slices.Clone(row))
		}
		small := Table(table)
		for _, row := range small.Next {
			for class := range row {
				row[class] = 1000
			}
		}
		for state := range small.Accept {
			small.Accept[state] = 1000
		}
		if !reflect.DeepEqual(table, before) {
			t.Fatalf("%v has become %v", before, table)
		}
	}
}

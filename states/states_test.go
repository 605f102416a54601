package states

import (
	"slices"
	"strings"
	"testing"

	"gleaner/api"
	"gleaner/pattern"
)

func readAll(t *testing.T, rules []string) (*pattern.Positions, []pattern.Part) {
	t.Helper()
	positions := &pattern.Positions{}
	var parts []pattern.Part
	for _, rule := range rules {
		part, wrong, place := positions.Read(rule)
		if wrong != api.OK {
			t.Fatalf("Read(%q): %d, %d", rule, wrong, place)
		}
		parts = append(parts, part)
	}
	return positions, parts
}

func tableOf(t *testing.T, rules ...string) api.Table {
	t.Helper()
	positions, parts := readAll(t, rules)
	table, few := Table(positions, parts)
	if !few {
		t.Fatalf("Table of %q: too many states", rules)
	}
	return table
}

func TestTables(t *testing.T) {
	for _, c := range []struct {
		rules  []string
		next   [][]int
		accept []int
	}{
		{[]string{""}, [][]int{{-1}}, []int{-1}},
		{[]string{"", "|", "()"}, [][]int{{-1}}, []int{-1}},
		{[]string{"a*b"}, [][]int{{-1, 0, 1}, {-1, -1, -1}}, []int{-1, 0}},
		{[]string{"a*"}, [][]int{{-1, 1}, {-1, 1}}, []int{-1, 0}},
		{[]string{"a", "a"}, [][]int{{-1, 1}, {-1, -1}}, []int{-1, 0}},
		{[]string{"aa", "a"}, [][]int{{-1, 1}, {-1, 2}, {-1, -1}}, []int{-1, 1, 0}},
		{[]string{"(b|a)c"}, [][]int{{-1, 1, 1, -1}, {-1, -1, -1, 2}, {-1, -1, -1, -1}}, []int{-1, -1, 0}},
		{[]string{".", "[^ -~]"}, [][]int{{1, 2, 3}, {-1, -1, -1}, {-1, -1, -1}, {-1, -1, -1}}, []int{-1, 0, 1, 0}},
	} {
		table := tableOf(t, c.rules...)
		if !slices.EqualFunc(table.Next, c.next, slices.Equal[[]int]) || !slices.Equal(table.Accept, c.accept) {
			t.Errorf("the table of %q is %v, %v, want %v, %v", c.rules, table.Next, table.Accept, c.next, c.accept)
		}
	}
}

func TestClasses(t *testing.T) {
	table := tableOf(t, "[b-d]", "c.")
	for b := range 256 {
		want := 0
		switch b {
		case '\n':
			want = 1
		case 'b', 'd':
			want = 2
		case 'c':
			want = 3
		}
		if table.Classes[b] != want {
			t.Errorf("the class of byte %d is %d, want %d", b, table.Classes[b], want)
		}
	}
}

func TestTooManyStates(t *testing.T) {
	positions, parts := readAll(t, []string{".*a............."})
	if table, few := Table(positions, parts); few || table.Next != nil || table.Accept != nil || table.Classes != [256]int{} {
		t.Errorf("%v, with %d states", few, len(table.Next))
	}
}

func TestRowsShareNothing(t *testing.T) {
	rules := []string{"ab|ba", "b*"}
	for i := range tableOf(t, rules...).Next {
		table, want := tableOf(t, rules...), tableOf(t, rules...)
		row := table.Next[i][:cap(table.Next[i])]
		for class := range row {
			row[class] = 1000
		}
		copy(want.Next[i], row)
		if !slices.EqualFunc(table.Next, want.Next, slices.Equal[[]int]) || !slices.Equal(table.Accept, want.Accept) {
			t.Errorf("writing into row %d made %v, %v of %v, %v", i, table.Next, table.Accept, want.Next, want.Accept)
		}
	}
}

// marked is a rule in which each atom is a letter of its own, so that the texts it matches tell the positions they go through.
type marked struct {
	written   string
	positions *pattern.Positions
	whole     pattern.Part
}

// mark gives each atom of the rules a capital letter, and tells what stood there. It knows atoms of one byte alone.
func mark(t *testing.T, rules []string) ([]marked, string) {
	t.Helper()
	var all []marked
	atoms := ""
	for _, rule := range rules {
		written := ""
		for _, b := range rule {
			if strings.ContainsRune("ab.", b) {
				written += string(rune('A' + len(atoms)))
				atoms += string(b)
			} else {
				written += string(b)
			}
		}
		positions, parts := readAll(t, []string{written})
		all = append(all, marked{written, positions, parts[0]})
	}
	return all, atoms
}

func takes(atom, b byte) bool {
	return atom == '.' && b != '\n' || atom == b
}

func unmarks(word, atoms, text string) bool {
	for i := range len(text) {
		if !takes(atoms[word[i]-'A'], text[i]) {
			return false
		}
	}
	return true
}

func wordsUpTo(letters string, length int) []string {
	all := []string{""}
	for i := 0; i < len(all) && len(all[i]) < length; i++ {
		for _, b := range letters {
			all = append(all, all[i]+string(b))
		}
	}
	return all
}

// stateOf tells the state of a text by the document's words: which positions may come next, and which rules match it.
func stateOf(words [][]string, atoms, text string) string {
	open, whole := make([]byte, len(atoms)), make([]byte, len(words))
	for i, all := range words {
		for _, word := range all {
			if len(word) < len(text) || !unmarks(word, atoms, text) {
				continue
			}
			if len(word) == len(text) {
				whole[i] = 1
			} else {
				open[word[len(text)]-'A'] = 1
			}
		}
	}
	if text == "" {
		whole = make([]byte, len(words))
	}
	return string(open) + string(whole)
}

// matched has the words that the rule matches and that are long enough to tell the states of all texts up to that length.
func (m marked) matched(length int) []string {
	letters := ""
	for _, b := range m.written {
		if 'A' <= b && b <= 'Z' {
			letters += string(b)
		}
	}
	var all []string
	// From each position the end is no farther than all positions of its rule.
	for _, word := range wordsUpTo(letters, length+len(letters)) {
		if m.positions.Matches(m.whole, word) {
			all = append(all, word)
		}
	}
	return all
}

func walk(table api.Table, text string) int {
	number := 0
	for i := 0; i < len(text) && number != None; i++ {
		number = table.Next[number][table.Classes[text[i]]]
	}
	return number
}

// checkStates tells whether texts lead to one number just if they lead to one state.
func checkStates(t *testing.T, rules []string, length int) {
	t.Helper()
	all, atoms := mark(t, rules)
	words := make([][]string, len(all))
	for i, m := range all {
		words[i] = m.matched(length)
	}
	table := tableOf(t, rules...)
	none := string(make([]byte, len(atoms)+len(rules)))
	numbers, names := map[string]int{stateOf(words, atoms, ""): 0}, map[int]string{0: stateOf(words, atoms, "")}
	for _, text := range wordsUpTo("ab\nc", length)[1:] {
		number, name := walk(table, text), stateOf(words, atoms, text)
		if (number == None) != (name == none) {
			t.Fatalf("%q by %q leads to %d, but its state is %q", text, rules, number, name)
		}
		if name == none {
			continue
		}
		if accept := strings.IndexByte(name[len(atoms):], 1); table.Accept[number] != accept {
			t.Fatalf("%q by %q leads to a state of rule %d, want %d", text, rules, table.Accept[number], accept)
		}
		if known, was := numbers[name]; was && known != number {
			t.Fatalf("%q by %q leads to %d, but texts of its state lead to %d too", text, rules, number, known)
		}
		if known, was := names[number]; was && known != name {
			t.Fatalf("%q by %q leads to %d, as texts of another state do", text, rules, number)
		}
		numbers[name], names[number] = number, name
	}
}

func TestStatesByTheirMeaning(t *testing.T) {
	small := []string{"", "a", "b", ".", "a*", "a?", "ab", "a|b", "a|ab", "(ab)*", "(a|b)*", "(a|b)*a", "a*b*", "(a*b)*", "(a?b?)+", ".*a", ".*ab", ".a*", "(a|)b", "(a|.)*b", "a+a", "(aa)+"}
	for _, first := range small {
		checkStates(t, []string{first}, 4)
		for _, second := range small {
			checkStates(t, []string{first, second}, 3)
		}
	}
}

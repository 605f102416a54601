package gleaner_test

import (
	"reflect"
	"slices"
	"strings"
	"sync"
	"testing"

	"gleaner/api"
	"gleaner/gleaner"
)

// classesOf has the bytes of the first text in class 1, those of the second in 2, and so on; all others in 0.
func classesOf(texts ...string) [256]int {
	var classes [256]int
	for i, text := range texts {
		for _, b := range []byte(text) {
			classes[b] = i + 1
		}
	}
	return classes
}

// span has all bytes from the first to the last one.
func span(first, last int) string {
	var all []byte
	for b := first; b <= last; b++ {
		all = append(all, byte(b))
	}
	return string(all)
}

// without has the bytes of a text but for some.
func without(text, those string) string {
	var left []byte
	for _, b := range []byte(text) {
		if strings.IndexByte(those, b) < 0 {
			left = append(left, b)
		}
	}
	return string(left)
}

type wanted struct {
	rules   []string
	classes [256]int
	next    [][]int
	accept  []int
}

func checkTables(t *testing.T, all ...wanted) {
	t.Helper()
	for _, c := range all {
		want := api.Table{Classes: c.classes, Next: c.next, Accept: c.accept}
		if table := lexerOf(t, c.rules...).Table(); !reflect.DeepEqual(table, want) {
			t.Errorf("P5: the table of %q is %v, want %v", c.rules, table, want)
		}
	}
}

func TestTablesByHand(t *testing.T) {
	letters := span('a', 'z')
	checkTables(t,
		wanted{[]string{"a*b"}, classesOf("a", "b"), [][]int{{-1, 0, 1}, {-1, -1, -1}}, []int{-1, 0}},
		wanted{[]string{"abc"}, classesOf("a", "b", "c"), [][]int{{-1, 1, -1, -1}, {-1, -1, 2, -1}, {-1, -1, -1, 3}, {-1, -1, -1, -1}}, []int{-1, -1, -1, 0}},
		wanted{[]string{"if", "[a-z]+", " +"}, classesOf(" ", without(letters, "if"), "f", "i"),
			[][]int{{-1, 1, 2, 2, 3}, {-1, 1, -1, -1, -1}, {-1, -1, 2, 2, 2}, {-1, -1, 2, 4, 2}, {-1, -1, 2, 2, 2}}, []int{-1, 2, 1, 1, 0}},
		wanted{[]string{"(a|b)*abb"}, classesOf("a", "b"), [][]int{{-1, 1, 0}, {-1, 1, 2}, {-1, 1, 3}, {-1, 1, 0}}, []int{-1, -1, -1, 0}},
		wanted{[]string{"a", "aab"}, classesOf("a", "b"), [][]int{{-1, 1, -1}, {-1, 2, -1}, {-1, -1, 3}, {-1, -1, -1}}, []int{-1, 0, -1, 1}},
	)
}

// TestTableOfNothing: no token can be reached, but the first state is there.
func TestTableOfNothing(t *testing.T) {
	for _, rules := range [][]string{{""}, {"()"}, {"|"}, {"()*"}, {"(|)+"}, {"()?||"}, {"", ""}, {"", "()", "|", "()*", "()+", "((()))"}} {
		checkTables(t, wanted{rules, [256]int{}, [][]int{{-1}}, []int{-1}})
	}
	checkTables(t, wanted{[]string{"", "()", "a"}, classesOf("a"), [][]int{{-1, 1}, {-1, -1}}, []int{-1, 2}})
}

func TestFirstState(t *testing.T) {
	loop := [][]int{{-1, 0, 1}, {-1, -1, -1}}
	checkTables(t,
		// One with another state, though its positions are others.
		wanted{[]string{"aa*b|b"}, classesOf("a", "b"), loop, []int{-1, 0}},
		wanted{[]string{"b|ab|aa+b"}, classesOf("a", "b"), loop, []int{-1, 0}},
		wanted{[]string{"(ab)*c|ababc"}, classesOf("a", "b", "c"), [][]int{{-1, 1, -1, 2}, {-1, -1, 0, -1}, {-1, -1, -1, -1}}, []int{-1, -1, 0}},
		// Only accepting holds the first state apart from the other.
		wanted{[]string{"a*"}, classesOf("a"), [][]int{{-1, 1}, {-1, 1}}, []int{-1, 0}},
		wanted{[]string{"a+"}, classesOf("a"), [][]int{{-1, 1}, {-1, 1}}, []int{-1, 0}},
		wanted{[]string{"[^a]*"}, classesOf("a"), [][]int{{1, -1}, {1, -1}}, []int{-1, 0}},
		wanted{[]string{"(ab)*"}, classesOf("a", "b"), [][]int{{-1, 1, -1}, {-1, -1, 2}, {-1, 1, -1}}, []int{-1, -1, 0}},
		wanted{[]string{"", "[a-b]*"}, classesOf("ab"), [][]int{{-1, 1}, {-1, 1}}, []int{-1, 1}},
		// One that accepts leads on as the first does, and one that does not accept is the first.
		wanted{[]string{"(a|bb)*"}, classesOf("a", "b"), [][]int{{-1, 1, 2}, {-1, 1, 2}, {-1, -1, 1}}, []int{-1, 0, -1}},
		wanted{[]string{"(aa)*a"}, classesOf("a"), [][]int{{-1, 1}, {-1, 0}}, []int{-1, 0}},
	)
}

func TestRuleThatIsNeverFirst(t *testing.T) {
	checkTables(t,
		wanted{[]string{"[a-z]+", "if"}, classesOf(span('a', 'z')), [][]int{{-1, 1}, {-1, 1}}, []int{-1, 0}},
		wanted{[]string{".", "."}, classesOf("\n"), [][]int{{1, -1}, {-1, -1}}, []int{-1, 0}},
		wanted{[]string{"[ab]", "b", "a"}, classesOf("ab"), [][]int{{-1, 1}, {-1, -1}}, []int{-1, 0}},
		wanted{[]string{"[ab]", "b", "c"}, classesOf("ab", "c"), [][]int{{-1, 1, 2}, {-1, -1}, {-1, -1}}, []int{-1, 0, 2}}.filled(),
		// The second rule is never first, but the third one is, behind the first one.
		wanted{[]string{"a*", "aaa", "ab"}, classesOf("a", "b"), [][]int{{-1, 1, -1}, {-1, 2, 3}, {-1, 2, -1}, {-1, -1, -1}}, []int{-1, 0, 0, 2}},
	)
}

// filled has rows as wide as the first one.
func (w wanted) filled() wanted {
	for i, row := range w.next {
		for len(row) < len(w.next[0]) {
			row = append(row, -1)
		}
		w.next[i] = row
	}
	return w
}

func TestStatesThatAreOne(t *testing.T) {
	fork := [][]int{{-1, 1, -1}, {-1, -1, 2}, {-1, -1, -1}}
	checkTables(t,
		wanted{[]string{"ab|cb"}, classesOf("ac", "b"), fork, []int{-1, -1, 0}},
		wanted{[]string{"ac|bc"}, classesOf("ab", "c"), fork, []int{-1, -1, 0}},
		wanted{[]string{"a(b|c)|d(b|c)"}, classesOf("ad", "bc"), fork, []int{-1, -1, 0}},
		// The last states are of two rules, and so are those ahead of them two.
		wanted{[]string{"ac", "bc"}, classesOf("a", "b", "c"), [][]int{{-1, 1, 2, -1}, {-1, -1, -1, 3}, {-1, -1, -1, 4}, {-1}, {-1}}, []int{-1, -1, -1, 0, 1}}.filled(),
		// The same texts lead on, but one state accepts.
		wanted{[]string{"ac|bc|b"}, classesOf("a", "b", "c"), [][]int{{-1, 1, 2, -1}, {-1, -1, -1, 3}, {-1, -1, -1, 3}, {-1}}, []int{-1, -1, 0, 0}}.filled(),
		// Both accept, but one leads on farther.
		wanted{[]string{"ac*|bc"}, classesOf("a", "b", "c"), [][]int{{-1, 1, 2, -1}, {-1, -1, -1, 1}, {-1, -1, -1, 3}, {-1}}, []int{-1, 0, -1, 0}}.filled(),
		// Farther from the end than the last byte.
		wanted{[]string{"a...x|b...y"}, classesOf("\n", "a", "b", "x", "y"), [][]int{
			{-1, -1, 1, 2, -1, -1}, {3, -1, 3, 3, 3, 3}, {4, -1, 4, 4, 4, 4}, {5, -1, 5, 5, 5, 5}, {6, -1, 6, 6, 6, 6},
			{7, -1, 7, 7, 7, 7}, {8, -1, 8, 8, 8, 8}, {-1, -1, -1, -1, 9, -1}, {-1, -1, -1, -1, -1, 9}, {-1, -1, -1, -1, -1, -1}},
			[]int{-1, -1, -1, -1, -1, -1, -1, -1, -1, 0}},
		// Other rules match the text, but the first is the same.
		wanted{[]string{"a|b", "b|c"}, classesOf("ab", "c"), [][]int{{-1, 1, 2}, {-1, -1, -1}, {-1, -1, -1}}, []int{-1, 0, 1}},
	)
}

func TestClassesOfBytes(t *testing.T) {
	rows := [][]int{{-1, 1}, {-1, -1}}
	inverse := [][]int{{1, -1}, {-1, -1}}
	checkTables(t,
		wanted{[]string{"b|a"}, classesOf("ab"), rows, []int{-1, 0}},
		wanted{[]string{"[ -~]"}, classesOf(span(32, 126)), rows, []int{-1, 0}},
		wanted{[]string{"[^ -~]"}, classesOf(span(32, 126)), inverse, []int{-1, 0}},
		wanted{[]string{"."}, classesOf("\n"), inverse, []int{-1, 0}},
		wanted{[]string{"[^~]"}, classesOf("~"), inverse, []int{-1, 0}},
		// Every byte is of one class, and it is not that of no state.
		wanted{[]string{".|[^a]"}, [256]int{}, [][]int{{1}, {-1}}, []int{-1, 0}},
		wanted{[]string{"(.|[^a])*"}, [256]int{}, [][]int{{1}, {1}}, []int{-1, 0}},
		// The bytes are two classes by one state alone, be it the first one or another.
		wanted{[]string{"a[ab]"}, classesOf("a", "b"), [][]int{{-1, 1, -1}, {-1, 2, 2}, {-1, -1, -1}}, []int{-1, -1, 0}},
		wanted{[]string{"[ab]a"}, classesOf("a", "b"), [][]int{{-1, 1, 1}, {-1, 2, -1}, {-1, -1, -1}}, []int{-1, -1, 0}},
		// Numbered by least bytes, whatever the rules' order.
		wanted{[]string{"b", "a"}, classesOf("a", "b"), [][]int{{-1, 1, 2}, {-1, -1, -1}, {-1, -1, -1}}, []int{-1, 1, 0}},
		wanted{[]string{"[^a]", "a"}, classesOf("a"), [][]int{{1, 2}, {-1, -1}, {-1, -1}}, []int{-1, 0, 1}},
		wanted{[]string{"[az]", "[bc]"}, classesOf("az", "bc"), [][]int{{-1, 1, 2}, {-1, -1, -1}, {-1, -1, -1}}, []int{-1, 0, 1}},
		wanted{[]string{"[bz]", "[ac]"}, classesOf("ac", "bz"), [][]int{{-1, 1, 2}, {-1, -1, -1}, {-1, -1, -1}}, []int{-1, 1, 0}},
		wanted{[]string{"[^ -~]", "~", "\\ "}, classesOf(" ", span(33, 125), "~"), [][]int{{1, 2, -1, 3}, {-1}, {-1}, {-1}}, []int{-1, 0, 2, 1}}.filled(),
	)
}

// TestNumbersOfStates: all next states of one come ahead of those behind them.
func TestNumbersOfStates(t *testing.T) {
	checkTables(t,
		wanted{[]string{"ad", "be"}, classesOf("a", "b", "d", "e"), [][]int{{-1, 1, 2, -1, -1}, {-1, -1, -1, 3, -1}, {-1, -1, -1, -1, 4}, {-1}, {-1}}, []int{-1, -1, -1, 0, 1}}.filled(),
		wanted{[]string{"be", "ad"}, classesOf("a", "b", "d", "e"), [][]int{{-1, 1, 2, -1, -1}, {-1, -1, -1, 3, -1}, {-1, -1, -1, -1, 4}, {-1}, {-1}}, []int{-1, -1, -1, 1, 0}}.filled(),
		wanted{[]string{"ba", "ab"}, classesOf("a", "b"), [][]int{{-1, 1, 2}, {-1, -1, 3}, {-1, 4, -1}, {-1, -1, -1}, {-1, -1, -1}}, []int{-1, -1, -1, 1, 0}},
		wanted{[]string{"aab|b"}, classesOf("a", "b"), [][]int{{-1, 1, 2}, {-1, 3, -1}, {-1, -1, -1}, {-1, -1, 2}}, []int{-1, -1, 0, -1}},
	)
}

// TestTableOfJust250States has rules of 250 states by the document's count, of which few are left.
func TestTableOfJust250States(t *testing.T) {
	rings := []string{"a*", "(aaa)+", "(aaaaaaa)+", "(aaaaaaaaaaa)+", strings.Repeat("b", 16)}
	want := wanted{rules: append(slices.Clone(rings), "cc"), classes: classesOf("a", "b", "c")}
	want.next = [][]int{{-1, 1, 2, 3}, {-1, 1, -1, -1}, {-1, -1, 4, -1}, {-1, -1, -1, 5}, {-1, -1, 6, -1}, {-1, -1, -1, -1}}
	want.accept = []int{-1, 0, -1, -1, -1, 5}
	for state := 7; state < 20; state++ {
		want.next, want.accept = append(want.next, []int{-1, -1, state, -1}), append(want.accept, -1)
	}
	want.next, want.accept = append(want.next, []int{-1, -1, -1, -1}), append(want.accept, 4)
	checkTables(t, want)
	// With one state more it is refused, though it would have no more than 21 in the table.
	checkMake(t, append(slices.Clone(rings), "ccc"), answer{wrong: api.ErrStates})
	checkMake(t, []string{".*", ".*a......."}, answer{wrong: api.ErrStates})
}

func TestGreatTables(t *testing.T) {
	for _, c := range []struct {
		rules []string
		count int
	}{
		// No two of these 250 are one: each has a place of its own on the rings or on a line.
		{[]string{"(aaa)+", "(aaaaaaa)+", "(aaaaaaaaaaa)+", strings.Repeat("b", 16), "cc"}, 250},
		{[]string{".*a......"}, 128},
		{[]string{".*", ".*a......"}, 2},
		// Where the first rule matches, it is all one whether the last byte is a b: 32 of 192 are not needed.
		{[]string{".*a......", ".*b"}, 160},
		{slices.Repeat([]string{"................"}, 6), 17},
	} {
		table := lexerOf(t, c.rules...).Table()
		if len(table.Next) != c.count || len(table.Accept) != c.count {
			t.Errorf("P5: the table of %q has %d states and %d rules, want %d", c.rules, len(table.Next), len(table.Accept), c.count)
		}
		checkForm(t, c.rules, table)
	}
}

// checkForm tells whether a table is in its one form, whatever texts it is of.
func checkForm(t *testing.T, rules []string, table api.Table) {
	t.Helper()
	if len(table.Next) == 0 || len(table.Next) != len(table.Accept) || table.Accept[0] != -1 {
		t.Fatalf("P5: the table of %q is %v", rules, table)
	}
	classes := 0
	for _, class := range table.Classes {
		if class < 0 || class > classes {
			t.Fatalf("P5: by %q class %d comes behind %d classes", rules, class, classes)
		}
		classes = max(classes, class+1)
	}
	columns := map[string]bool{}
	for class := range classes {
		columns[column(t, rules, table, class, classes)] = true
	}
	if len(columns) != classes {
		t.Fatalf("P5: two classes of %q lead from each state to the same one: %v", rules, table)
	}
	come := 1
	for _, row := range table.Next {
		for _, next := range row {
			if next < -1 || next > come {
				t.Fatalf("P5: by %q state %d comes behind %d states", rules, next, come)
			}
			come = max(come, next+1)
		}
	}
	if come != len(table.Next) {
		t.Fatalf("P5: by %q %d states of %d are come to", rules, come, len(table.Next))
	}
	checkNoTwoAreOne(t, rules, table)
}

func column(t *testing.T, rules []string, table api.Table, class, classes int) string {
	t.Helper()
	all := ""
	for _, row := range table.Next {
		if len(row) != classes {
			t.Fatalf("P5: by %q there are %d classes, but rows of %d", rules, classes, len(row))
		}
		all += string(rune(row[class] + 1))
	}
	return all
}

// checkNoTwoAreOne splits the states, and no state (-1), by what one byte more tells, until nothing is split any more.
func checkNoTwoAreOne(t *testing.T, rules []string, table api.Table) {
	t.Helper()
	kinds := map[int]int{-1: -1}
	for state, rule := range table.Accept {
		kinds[state] = rule
	}
	for range len(table.Next) + 1 {
		numbers, finer := map[string]int{}, map[int]int{}
		for state := -1; state < len(table.Next); state++ {
			name := string(rune(kinds[state] + 1))
			for class := range table.Next[0] {
				next := -1
				if state >= 0 {
					next = table.Next[state][class]
				}
				name += string(rune(kinds[next] + 1))
			}
			if _, known := numbers[name]; !known {
				numbers[name] = len(numbers)
			}
			finer[state] = numbers[name]
		}
		kinds = finer
	}
	owners := map[int]int{}
	for state := -1; state < len(table.Next); state++ {
		// The first state is there even if no token can be reached from it.
		if owner, taken := owners[kinds[state]]; taken && !(owner == -1 && state == 0) {
			t.Fatalf("P5: by %q states %d and %d are one: %v", rules, owner, state, table)
		}
		owners[kinds[state]] = state
	}
}

// told tells the rule that a table tells of a text.
func told(table api.Table, text string) int {
	state := 0
	for i := range len(text) {
		state = table.Next[state][table.Classes[text[i]]]
		if state == -1 {
			return -1
		}
	}
	return table.Accept[state]
}

func fittingPieces() []piece {
	return slices.DeleteFunc(somePieces(), func(p piece) bool { return len(p.written) > api.MaxPattern })
}

func firstMatching(rules []piece, text string) int {
	return slices.IndexFunc(rules, func(p piece) bool { return p.ends(text, 0).has(len(text)) })
}

func TestMeaningOfTables(t *testing.T) {
	pieces, texts := fittingPieces(), shortTexts()[1:]
	for _, text := range shortTexts() {
		texts = append(texts, "a.a"+text, "bb"+text)
	}
	seed, accepted := 7, 0
	for i := range 1500 {
		var rules []piece
		var written []string
		for range 1 + i%6 {
			seed = seed * 48271 % 2147483647
			rules = append(rules, pieces[seed%len(pieces)])
			written = append(written, rules[len(rules)-1].written)
		}
		table := lexerOf(t, written...).Table()
		checkForm(t, written, table)
		for _, text := range texts {
			want := firstMatching(rules, text)
			if got := told(table, text); got != want {
				t.Fatalf("P5: the table of %q tells rule %d of %q, want %d", written, got, text, want)
			}
			if want >= 0 {
				accepted++
			}
		}
	}
	if accepted < 10000 {
		t.Errorf("only %d texts were matched", accepted)
	}
}

func checkSameTable(t *testing.T, rules, others []string) {
	t.Helper()
	table, other := lexerOf(t, rules...).Table(), lexerOf(t, others...).Table()
	if !reflect.DeepEqual(table, other) {
		t.Errorf("P7: the table of %q is %v, of %q %v", rules, table, others, other)
	}
}

func TestSameTexts(t *testing.T) {
	for _, all := range [][][]string{
		{{"a(b|c)"}, {"ab|ac"}, {"a[bc]"}, {"(a)([b-c])"}, {"a(c|b|c)"}, {"a(b|c)", "a[bc]"}},
		{{"a+"}, {"aa*"}, {"a*a"}, {"(a|aa)+"}, {"a*"}, {"a**"}, {"a?+"}, {"(|a)*"}},
		{{"(ab)*a"}, {"a(ba)*"}, {"a|aba(ba)*"}},
		{{"(a|b)*"}, {"(a*b*)*"}, {"[ab]+"}, {"(a|b|ab|ba)*"}, {"(b*a)*b*"}},
		{{"(a|b)*a(a|b)"}, {"[ba]*a[ba]"}, {"(b*a)+[ab]"}},
		{{"a", "b"}, {"a", "b|a"}, {"a", "b", "a"}, {"a", "b", "", "b"}, {"a|", "()|b"}},
		{{".*", "a"}, {".+"}, {".*", ".", "..", "...", "a*", ""}},
		{{"[^a]|a"}, {".|[^ -~]"}, {"(.|[^.])"}, {"[a-z]|[^a-z]"}},
		{{"\\a\\b"}, {"ab"}, {"[a][\\b]"}, {"[a-a]b"}},
		{{"if", "[a-z]+"}, {"if", "[a-z][a-z]*", "if"}, {"i(f)", "([a-z]*)+"}},
		{{""}, {"()"}, {"|", ""}},
	} {
		for _, rules := range all[1:] {
			checkSameTable(t, all[0], rules)
		}
	}
}

// TestOtherTexts: rules that do not match the same texts have other tables.
func TestOtherTexts(t *testing.T) {
	all := [][]string{{""}, {"a"}, {"b"}, {"a|b"}, {"a", "b"}, {"b", "a"}, {"", "a"}, {"a*"}, {"", "a*"}, {"aa"}, {"a?a"}, {"."}, {"[^a]"}, {".", "[^a]"}, {"a*b"}, {"a+b"}, {"ab*"}, {"(ab)*"}}
	for i, rules := range all {
		for _, others := range all[:i] {
			if reflect.DeepEqual(lexerOf(t, rules...).Table(), lexerOf(t, others...).Table()) {
				t.Errorf("P5: %q and %q have the same table", rules, others)
			}
		}
	}
}

// laws have in each row ways to write the same texts.
func laws(x, y, z piece) [][]piece {
	star := func(p piece) piece { return repPiece(p, '*') }
	plus := func(p piece) piece { return repPiece(p, '+') }
	maybe := func(p piece) piece { return repPiece(p, '?') }
	return [][]piece{
		{altPiece(x, y), altPiece(y, x), altPiece(x, altPiece(y, x))},
		{catPiece(x, altPiece(y, z)), altPiece(catPiece(x, y), catPiece(x, z))},
		{catPiece(altPiece(x, y), z), altPiece(catPiece(x, z), catPiece(y, z))},
		{star(altPiece(x, y)), star(catPiece(star(x), star(y))), star(altPiece(plus(x), y))},
		{plus(x), catPiece(x, star(x)), catPiece(star(x), x), plus(plus(x))},
		{star(x), maybe(plus(x)), plus(maybe(x)), star(star(x)), altPiece(emptyPiece(), plus(x))},
		{maybe(x), altPiece(x, emptyPiece()), maybe(maybe(x))},
		{catPiece(x, star(catPiece(y, x))), catPiece(star(catPiece(x, y)), x)},
		{x, catPiece(x, emptyPiece()), catPiece(emptyPiece(), x), altPiece(x, x)},
	}
}

func TestLaws(t *testing.T) {
	var parts []piece
	for _, p := range somePieces() {
		if len(p.written) <= 3 {
			parts = append(parts, p)
		}
	}
	seed, count := 3, 0
	pick := func() piece {
		seed = seed * 48271 % 2147483647
		return parts[seed%len(parts)]
	}
	for range 1000 {
		for _, row := range laws(pick(), pick(), pick()) {
			row = slices.DeleteFunc(row, func(p piece) bool { return len(p.written) > api.MaxPattern })
			for i := 1; i < len(row); i++ {
				checkSameTable(t, []string{row[0].written}, []string{row[i].written})
				// Among other rules too, and again where an earlier one matches it all.
				checkSameTable(t, []string{"a.", row[0].written, "[^b]*"}, []string{"a.", row[i].written, "[^b]*", row[0].written})
				count++
			}
		}
	}
	if count < 5000 {
		t.Errorf("only %d pairs were held against each other", count)
	}
}

func TestCutAgain(t *testing.T) {
	pieces, texts := fittingPieces(), shortTexts()
	for _, text := range shortTexts() {
		texts = append(texts, "a.\n"+text, text+"bba.a")
	}
	seed, count := 11, 0
	for i := range 600 {
		var written []string
		for range 1 + i%6 {
			seed = seed * 48271 % 2147483647
			written = append(written, pieces[seed%len(pieces)].written)
		}
		lexer := lexerOf(t, written...)
		for _, text := range texts {
			tokens, _ := lexer.Scan(text)
			for _, token := range tokens {
				alone := text[token.From:token.To]
				again, end := lexer.Scan(alone)
				if want := (api.Token{Rule: token.Rule, To: len(alone)}); !slices.Equal(again, []api.Token{want}) || end != len(alone) {
					t.Fatalf("P7: %q of %q is cut by %q into %v, %d", alone, text, written, again, end)
				}
				count++
			}
		}
	}
	if count < 20000 {
		t.Errorf("only %d tokens were cut", count)
	}
}

func TestMatchTellsWhatTheTableTells(t *testing.T) {
	texts := shortTexts()[1:]
	for b := range 256 {
		texts = append(texts, string([]byte{byte(b)}), "a"+string([]byte{byte(b)}))
	}
	texts = append(texts, strings.Repeat("a", 20), strings.Repeat("ab.", 9), strings.Repeat("..", 300)+"\n")
	for i, p := range fittingPieces() {
		// All texts for some, the shortest for all.
		some := texts[:84]
		if i%20 == 0 {
			some = texts
		}
		table := lexerOf(t, p.written).Table()
		for _, text := range some {
			matches, _ := gleaner.Match(p.written, text)
			if rule := told(table, text); matches != (rule == 0) || !matches && rule != -1 {
				t.Fatalf("P7: Match(%q, %q) = %v, but the table tells rule %d", p.written, text, matches, rule)
			}
		}
	}
	// Of the text of no bytes the table tells no rule, whatever Match tells.
	checkMatch(t, "a*", "", true)
	if rule := told(lexerOf(t, "a*").Table(), ""); rule != -1 {
		t.Errorf("P5: the table of a* tells rule %d of the text of no bytes", rule)
	}
}

// overwrite writes into all that a table has, its spare room too.
func overwrite(table *api.Table, number int) {
	for b := range table.Classes {
		table.Classes[b] = number
	}
	for _, row := range table.Next[:cap(table.Next)] {
		row = row[:cap(row)]
		for class := range row {
			row[class] = number
		}
	}
	clear(table.Next[:cap(table.Next)])
	accept := table.Accept[:cap(table.Accept)]
	for state := range accept {
		accept[state] = number
	}
}

func TestTablesAreFresh(t *testing.T) {
	rules := []string{"if", "[a-z]+", " +"}
	lexer, other := lexerOf(t, rules...), lexerOf(t, rules...)
	early := other.Table()
	want := lexer.Table()
	for number := range 5 {
		mine, yours := lexer.Table(), lexer.Table()
		overwrite(&mine, number-2)
		for _, table := range []api.Table{yours, lexer.Table(), other.Table(), early, lexerOf(t, rules...).Table()} {
			if !reflect.DeepEqual(table, want) {
				t.Fatalf("P2: a table has become %v by writing into another", table)
			}
		}
		for _, l := range []*gleaner.Lexer{lexer, other} {
			checkScan(t, l, "if iffy 9", 8, cut(0, "if", 2, " ", 1, "iffy", 2, " ")...)
		}
	}
}

// TestListsOfOneTable: they are apart from each other too, and from each other's spare room.
func TestListsOfOneTable(t *testing.T) {
	lexer := lexerOf(t, "ab|ba", "b*", "(a|c)+")
	for i := range len(lexer.Table().Next) + 1 {
		table, want := lexer.Table(), lexer.Table()
		lists, others := append(slices.Clone(table.Next), table.Accept), append(slices.Clone(want.Next), want.Accept)
		list := lists[i][:cap(lists[i])]
		for k := range list {
			list[k] = 1000
		}
		copy(others[i], list)
		if !reflect.DeepEqual(lists, others) {
			t.Errorf("P2: writing into list %d made %v of %v", i, lists, others)
		}
	}
}

func TestTableChangesNothing(t *testing.T) {
	lexer := lexerOf(t, "a", "a*b")
	want := lexer.Table()
	var all sync.WaitGroup
	for range 8 {
		all.Go(func() {
			for number := range 100 {
				table := lexer.Table()
				if !reflect.DeepEqual(table, want) {
					t.Errorf("P2: the table has become %v", table)
				}
				overwrite(&table, number)
				checkScan(t, lexer, "aabac", 4, cut(1, "aab", 0, "a")...)
			}
		})
	}
	all.Wait()
}

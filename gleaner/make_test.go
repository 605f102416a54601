package gleaner_test

import (
	"slices"
	"strings"
	"testing"

	"gleaner/api"
	"gleaner/gleaner"
)

// answer is what Make tells beside the lexer.
type answer struct {
	wrong         api.Errno
	number, place int
}

func checkMake(t *testing.T, rules []string, want answer) {
	t.Helper()
	lexer, wrong, number, place := gleaner.Make(rules)
	if (answer{wrong, number, place}) != want || (lexer != nil) != (want.wrong == api.OK) {
		t.Errorf("P4: Make(%q) = %v, %d, %d, %d, want %v", rules, lexer != nil, wrong, number, place, want)
	}
}

func TestHowManyRules(t *testing.T) {
	checkMake(t, nil, answer{wrong: api.ErrMany})
	checkMake(t, []string{}, answer{wrong: api.ErrMany})
	for count := 1; count <= 6; count++ {
		checkMake(t, slices.Repeat([]string{"a"}, count), answer{})
		checkMake(t, make([]string, count), answer{})
	}
	for _, count := range []int{7, 8, 255, 256, 257, 262, 100000} {
		checkMake(t, slices.Repeat([]string{"a"}, count), answer{wrong: api.ErrMany})
		checkMake(t, make([]string, count), answer{wrong: api.ErrMany})
	}
	// Too many rules are told ahead of all else that is wrong.
	checkMake(t, slices.Repeat([]string{"("}, 7), answer{wrong: api.ErrMany})
	checkMake(t, slices.Repeat([]string{".*a............."}, 7), answer{wrong: api.ErrMany})
	checkMake(t, slices.Repeat([]string{strings.Repeat("a", 17)}, 7), answer{wrong: api.ErrMany})
}

func TestRulesOfEachKind(t *testing.T) {
	checkMake(t, []string{"if", "[a-z]+", " +"}, answer{})
	checkMake(t, []string{"", "()", "|", "a*", "(a|)*", "()+"}, answer{})
	checkMake(t, []string{strings.Repeat("a", 16), strings.Repeat("b", 16), strings.Repeat("c", 16), strings.Repeat("d", 16), strings.Repeat("e", 16), strings.Repeat("f", 16)}, answer{})
	checkMake(t, []string{"[^ -~]", ".", "\\\\", "[\\]\\-]"}, answer{})
}

func TestWrongRules(t *testing.T) {
	wrongs := []struct {
		pattern string
		fault   fault
	}{
		{strings.Repeat("a", 17), fault{api.ErrLong, 0}},
		{"ab\n", fault{api.ErrByte, 2}},
		{"a|(b", fault{api.ErrEnd, 4}},
		{"a)", fault{api.ErrSyntax, 1}},
		{"*", fault{api.ErrSyntax, 0}},
		{"x[z-a]", fault{api.ErrSet, 2}},
	}
	for _, c := range wrongs {
		for count := 1; count <= 6; count++ {
			for number := range count {
				rules := slices.Repeat([]string{"[a-z]+"}, count)
				rules[number] = c.pattern
				checkMake(t, rules, answer{c.fault.wrong, number, c.fault.place})
			}
		}
	}
	// The first of two wrong ones is told, whatever is wrong with them.
	for _, first := range wrongs {
		for _, second := range wrongs {
			checkMake(t, []string{"", first.pattern, "a", second.pattern}, answer{first.fault.wrong, 1, first.fault.place})
		}
	}
}

func TestWrongRulesAheadOfStates(t *testing.T) {
	checkMake(t, []string{".*a.............", "("}, answer{api.ErrEnd, 1, 1})
	checkMake(t, []string{"a", ".*a.............", "b", "]"}, answer{api.ErrSyntax, 3, 0})
	checkMake(t, []string{"[b-a]", ".*a............."}, answer{api.ErrSet, 0, 1})
	checkMake(t, []string{".*a.............", "a"}, answer{wrong: api.ErrStates})
}

// TestStates has rules whose states can be counted by hand. Three rings of 3, 7 and 11 stand together again after 231 steps.
func TestStates(t *testing.T) {
	ring := func(size int, behind string) string { return "(" + strings.Repeat("a", size) + ")" + behind }
	plus := []string{ring(3, "+"), ring(7, "+"), ring(11, "+")}
	with := func(rules []string, more ...string) []string { return slices.Concat(rules, more) }
	line := func(b string, size int) string { return strings.Repeat(b, size) }
	for _, c := range []struct {
		rules []string
		count int
	}{
		// The first one; 231, all but one of the rings' steps new by its place, the last one by its rules; the two lines.
		{with(plus, line("b", 16), line("c", 2)), 1 + 231 + 16 + 2},
		{with(plus, line("b", 16), line("c", 3)), 1 + 231 + 16 + 3},
		// Here the last step leads back to the first state, as it has no rules. Behind b is a state for each choice of rings; then come the two tails.
		{[]string{ring(3, "*b"+line("c", 9)), ring(7, "*b"+line("d", 3)), ring(11, "*b")}, 231 + 7 + 9 + 3},
		{[]string{ring(3, "*b"+line("c", 9)), ring(7, "*b"+line("d", 4)), ring(11, "*b")}, 231 + 7 + 9 + 4},
		// And here it does not, as it has rules: the first state has none, though all of them match the text of no bytes.
		{[]string{ring(3, "*(|bcccccc)"), ring(7, "*(|ddd)"), ring(11, "*e?"), ring(3, "*(|fffffff)")}, 1 + 231 + 7 + 3 + 1 + 7},
		{[]string{ring(3, "*(|bcccccc)"), ring(7, "*(|ddd)"), ring(11, "*e?"), ring(3, "*(|fffffff)"), ring(3, "*g?")}, 1 + 231 + 7 + 3 + 1 + 7 + 1},
		// What was hit does not count, but what may follow: after c and after d that is the same.
		{with(plus, line("b", 16), "(c|d)e"), 1 + 231 + 16 + 2},
		{with(plus, line("b", 16), "(c|d)(e|f)g"), 1 + 231 + 16 + 3},
		// Of the same positions there are as many states as choices of rules.
		{with(plus, line("b", 16), "c|d", "c|e"), 1 + 231 + 16 + 3},
		{with(plus, line("b", 16), "c|d", "c"), 1 + 231 + 16 + 2},
		// One state for each set of the last places at which an a stood.
		{[]string{".*a......"}, 128},
		{[]string{".*a......."}, 256},
		{[]string{".*a......", ".*b"}, 3 * 64},
		// They count though one state would do for all of them.
		{[]string{".*", ".*a......."}, 257},
		{[]string{"."}, 2},
		{[]string{""}, 1},
	} {
		want := answer{}
		if c.count > 250 {
			want.wrong = api.ErrStates
		}
		checkMake(t, c.rules, want)
	}
}

func TestHeavyRules(t *testing.T) {
	checkMake(t, slices.Repeat([]string{".*a............."}, 6), answer{wrong: api.ErrStates})
	checkMake(t, []string{".*a.............", ".*b.............", ".*c.............", ".*d.............", ".*e.............", ".*f............."}, answer{wrong: api.ErrStates})
	checkMake(t, slices.Repeat([]string{"................"}, 6), answer{})
	checkMake(t, slices.Repeat([]string{"(((((a*)*)*)*)*)"}, 6), answer{})
}

func TestMakeAgreesWithRight(t *testing.T) {
	for a := range 256 {
		for b := range 256 {
			pattern := string([]byte{byte(a), byte(b)})
			wrong, place := gleaner.Right(pattern)
			want := answer{wrong: wrong, place: place}
			if wrong != api.OK {
				want.number = 1
			}
			checkMake(t, []string{"a", pattern}, want)
		}
	}
}

// TestMakeLeavesItsList also looks at what stands behind the list.
func TestMakeLeavesItsList(t *testing.T) {
	for _, count := range []int{0, 2, 3, 6, 7} {
		whole := []string{"if", "[a-z]+", "(", "a", "b", "c", "d", "e"}
		before := slices.Clone(whole)
		gleaner.Make(whole[:count])
		if !slices.Equal(whole, before) {
			t.Errorf("P2: Make of %d rules has made %q of %q", count, whole, before)
		}
	}
}

func TestMakeKeepsNoList(t *testing.T) {
	rules := []string{"a", "b"}
	lexer, _, _, _ := gleaner.Make(rules)
	rules[0], rules[1] = "b", "("
	checkScan(t, lexer, "abc", 2, api.Token{Rule: 0, From: 0, To: 1}, api.Token{Rule: 1, From: 1, To: 2})
}

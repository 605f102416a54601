package gleaner_test

import (
	"strings"
	"testing"

	"gleaner/api"
	"gleaner/gleaner"
)

type fault struct {
	wrong api.Errno
	place int
}

func checkRight(t *testing.T, pattern string, want fault) {
	t.Helper()
	wrong, place := gleaner.Right(pattern)
	if (fault{wrong, place}) != want {
		t.Errorf("P3: Right(%q) = %d, %d, want %d, %d", pattern, wrong, place, want.wrong, want.place)
	}
	matches, wrong := gleaner.Match(pattern, "")
	if wrong != want.wrong || wrong != api.OK && matches {
		t.Errorf("P3: Match(%q, \"\") = %v, %d, want the error %d", pattern, matches, wrong, want.wrong)
	}
}

func TestRightPatterns(t *testing.T) {
	for _, pattern := range []string{
		"", "|", "||", "()", "(|)", "a||b", "(|a)", "(a|)", "(())", "()()",
		"a*", "a**", "a*+?", "a?+*+?", "()*", "(a)+", "[a]?", ".*", "\\**",
		".", "..", "-", "^", "^-^", "{}", "a{2}", "$", "\"", "/", " ", "~",
		"[a]", "[ab]", "[^a]", "[^ab]", "[a-b]", "[a-a]", "[^a-b]", "[a-bc-d]", "[a-bc]", "[ab-c]", "[ -~]",
		"[()|*+?.]", "[(-)]", "[*-+]", "[\\[\\]\\^\\-\\\\]", "[^\\^]", "[\\^]", "[\\^a]", "[\\--\\-]", "[\\]-a]", "[\\a-\\b]", "[\\\\-a]",
		"\\(\\)\\[\\]\\|\\*", "\\+\\?\\.\\\\", "\\a\\ \\~", "\\^\\-",
		strings.Repeat("a", 16), "a" + strings.Repeat("*", 15), strings.Repeat("(", 8) + strings.Repeat(")", 8), strings.Repeat("|", 16), strings.Repeat("\\", 16),
	} {
		checkRight(t, pattern, fault{})
	}
}

func TestLongPatterns(t *testing.T) {
	for _, pattern := range []string{strings.Repeat("a", 17), strings.Repeat("*", 17), strings.Repeat("\n", 17), strings.Repeat("a", 16) + "\x80", strings.Repeat("[b-a]", 400)} {
		checkRight(t, pattern, fault{api.ErrLong, 0})
	}
}

func TestBytesOfPatterns(t *testing.T) {
	for b := range 256 {
		want := fault{api.ErrByte, 3}
		if 32 <= b && b <= 126 {
			want = fault{}
		}
		checkRight(t, "ab\\"+string([]byte{byte(b)}), want)
	}
	for _, c := range []struct {
		pattern string
		place   int
	}{
		{"\x1f", 0}, {"\x7f", 0}, {"\x00", 0}, {"\xff", 0}, {"a\x7f\x1f", 1}, {"*\n", 1}, {"([b-a]\t", 6}, {"[\x80]", 1}, {"\\\r", 1}, {strings.Repeat("a", 15) + "\x1f", 15}, {"a)\xc3\xa4", 2},
	} {
		checkRight(t, c.pattern, fault{api.ErrByte, c.place})
	}
}

func TestUnendedPatterns(t *testing.T) {
	for _, pattern := range []string{
		"a|(b", "(", "((", "(a", "(a|", "(a)(", "((a)", "(a*", "()(()", "(\\)", "([)]",
		"\\", "a\\", "\\\\\\", "(\\", "a|\\",
		"[", "[^", "[a", "[^a", "[a-", "[a-b", "[a-bc", "[\\", "[\\]", "[a\\", "[a-\\", "[A-\\]", "[(", "a[*",
		strings.Repeat("(", 16), strings.Repeat("a", 15) + "[", strings.Repeat("a", 15) + "\\",
	} {
		checkRight(t, pattern, fault{api.ErrEnd, len(pattern)})
	}
}

func TestWrongBytes(t *testing.T) {
	for _, c := range []struct {
		pattern string
		place   int
	}{
		{"a)", 1}, {")", 0}, {"())", 2}, {"(a))", 3}, {"a|)", 2}, {")(", 0}, {"\\()", 2},
		{"*", 0}, {"+", 0}, {"?", 0}, {"a|*", 2}, {"(+", 1}, {"(a|?)", 3}, {"|*", 1}, {"*)", 0},
		{"]", 0}, {"a]", 1}, {"(]", 1}, {"[a]]", 3}, {"[\\]]]", 4},
		{"[]", 1}, {"[]a]", 1}, {"[^]", 2}, {"[^]]", 2}, {"[^^]", 2}, {"[a^]", 2}, {"[a-b^", 4},
		{"[[", 1}, {"[a[]", 2}, {"[^[", 2}, {"[a-[]", 3}, {"[a-b[", 4},
		{"[-", 1}, {"[-a]", 1}, {"[^-a]", 2}, {"[a-]", 3}, {"[a--]", 3}, {"[a-^]", 3}, {"[a-b-c]", 4}, {"[a-b-", 4}, {"[\\--]", 4}, {"[ab-]", 4},
		{strings.Repeat("a", 15) + ")", 15}, {"[a-][b-a]", 3},
	} {
		checkRight(t, c.pattern, fault{api.ErrSyntax, c.place})
	}
}

func TestItemsTheWrongWayRound(t *testing.T) {
	for _, c := range []struct {
		pattern string
		place   int
	}{
		{"[z-a]", 1}, {"[z-a", 1}, {"[b-a-", 1}, {"[b-a)(", 1}, {"[b-a][]", 1}, {"[^b-a]", 2}, {"[ab-a]", 2}, {"[a-bb-a]", 4},
		{"[\\b-a]", 1}, {"[b-\\a]", 1}, {"[\\b-\\a]", 1}, {"[c\\b-a]", 2}, {"[\\ab-a]", 3}, {"[~- ]", 1}, {"[a-\\]]", 1}, {"[a-\\^]", 1}, {"[a-\\-]", 1},
		{"(([b-a]", 3}, {"a|[b-a]*", 3}, {strings.Repeat("a", 11) + "[b-a]", 12},
	} {
		checkRight(t, c.pattern, fault{api.ErrSet, c.place})
	}
}

// What may stand next in a pattern; that, and how many brackets are open, is all that a walk along the grammar must know.
type expected int

const (
	atomOnly expected = iota // at the start of a cat
	atomOrSign
	escapedAtom
	caretOrItem
	itemOnly
	dashOrMore // behind the first byte of an item
	lastOfItem
	itemOrShut
	escapedFirst
	escapedLast
)

// walk goes along a pattern without calling itself, to stand against Right.
func walk(pattern string) fault {
	state, open := atomOnly, 0
	var first byte
	place := 0
	for i := range len(pattern) {
		b := pattern[i]
		is := func(those string) bool { return strings.IndexByte(those, b) >= 0 }
		inItem := state == caretOrItem || state == itemOnly || state == dashOrMore || state == itemOrShut
		switch {
		case state == escapedAtom:
			state = atomOrSign
		case state == escapedFirst:
			state, first = dashOrMore, b
		case state == escapedLast || state == lastOfItem && !is("[]^-\\"):
			if first > b {
				return fault{api.ErrSet, place}
			}
			state = itemOrShut
		case state == lastOfItem && is("\\"):
			state = escapedLast
		case state == caretOrItem && is("^"):
			state = itemOnly
		case state == dashOrMore && is("-"):
			state = lastOfItem
		case (state == dashOrMore || state == itemOrShut) && is("]"):
			state = atomOrSign
		case inItem && is("\\"):
			state, place = escapedFirst, i
		case inItem && !is("[]^-"):
			state, first, place = dashOrMore, b, i
		case inItem || state == lastOfItem:
			return fault{api.ErrSyntax, i}
		case is("("):
			state, open = atomOnly, open+1
		case is(")") && open > 0:
			state, open = atomOrSign, open-1
		case is("["):
			state = caretOrItem
		case is("|"):
			state = atomOnly
		case is("\\"):
			state = escapedAtom
		case is("*+?") && state == atomOrSign:
		case is(")]*+?"):
			return fault{api.ErrSyntax, i}
		default:
			state = atomOrSign
		}
	}
	if open > 0 || state != atomOnly && state != atomOrSign {
		return fault{api.ErrEnd, len(pattern)}
	}
	return fault{}
}

func sameAsWalk(t *testing.T, pattern string) {
	t.Helper()
	wrong, place := gleaner.Right(pattern)
	if want := walk(pattern); (fault{wrong, place}) != want {
		t.Fatalf("P3: Right(%q) = %d, %d, want %d, %d", pattern, wrong, place, want.wrong, want.place)
	}
}

func TestAllShortPatterns(t *testing.T) {
	const signs = "()[]|*^-\\.ab"
	level := []string{""}
	for range 5 {
		var longer []string
		for _, pattern := range level {
			sameAsWalk(t, pattern)
			for _, b := range signs {
				longer = append(longer, pattern+string(b))
			}
		}
		level = longer
	}
	for _, pattern := range level {
		sameAsWalk(t, pattern)
		sameAsWalk(t, "(["+pattern)
	}
}

func TestLongerPatterns(t *testing.T) {
	const signs = "(()))[]]^--\\|*+?.aabbz ~"
	seed := uint32(1)
	for range 200000 {
		pattern := ""
		seed = seed*1664525 + 1013904223
		for range 6 + (seed>>24)%11 {
			seed = seed*1664525 + 1013904223
			pattern += string(signs[int(seed>>16)%len(signs)])
		}
		sameAsWalk(t, pattern)
	}
}

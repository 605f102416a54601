package pattern

import (
	"slices"
	"testing"

	"gleaner/api"
	"gleaner/sets"
)

func set(numbers ...uint8) sets.Set {
	var whole sets.Set
	for _, n := range numbers {
		whole = sets.Union(whole, sets.One(n))
	}
	return whole
}

func TestPositions(t *testing.T) {
	for _, c := range []struct {
		text   string
		part   Part
		follow []sets.Set
	}{
		{"", Part{Empty: true}, nil},
		{"()*|", Part{Empty: true}, nil},
		{"ab", Part{First: set(0), Last: set(1)}, []sets.Set{set(1), set()}},
		{"a*b", Part{First: set(0, 1), Last: set(1)}, []sets.Set{set(0, 1), set()}},
		{"a+b?", Part{First: set(0), Last: set(0, 1)}, []sets.Set{set(0, 1), set()}},
		{"a|b", Part{First: set(0, 1), Last: set(0, 1)}, []sets.Set{set(), set()}},
		{"(a|.[b]\\c)*", Part{Empty: true, First: set(0, 1), Last: set(0, 3)}, []sets.Set{set(0, 1), set(2), set(3), set(0, 1)}},
		{"a?b?c?", Part{Empty: true, First: set(0, 1, 2), Last: set(0, 1, 2)}, []sets.Set{set(1, 2), set(2), set()}},
	} {
		var p Positions
		part, wrong, place := p.Read(c.text)
		if wrong != api.OK || place != 0 || part != c.part || !slices.Equal(p.follow, c.follow) {
			t.Errorf("Read(%q) = %v, %d, %d, with %v behind them", c.text, part, wrong, place, p.follow)
		}
	}
}

func TestSeveralPatterns(t *testing.T) {
	var p Positions
	first, _, _ := p.Read("ab")
	second, _, _ := p.Read("a*c")
	if second.First != set(2, 3) || second.Last != set(3) {
		t.Errorf("the second pattern's positions go on behind the first one's: %v", second)
	}
	for _, c := range []struct {
		part Part
		text string
		want bool
	}{
		{first, "ab", true}, {first, "ac", false}, {first, "aac", false},
		{second, "ab", false}, {second, "c", true}, {second, "aac", true},
	} {
		if got := p.Matches(c.part, c.text); got != c.want {
			t.Errorf("Matches(%v, %q) = %v", c.part, c.text, got)
		}
	}
}

func TestReadWrong(t *testing.T) {
	for _, text := range []string{"aaaaaaaaaaaaaaaaa", "a\n", "a(", "a)", "[b-a]"} {
		var p Positions
		if part, wrong, _ := p.Read(text); wrong == api.OK || part != (Part{}) {
			t.Errorf("Read(%q) = %v, %d", text, part, wrong)
		}
	}
}

func TestTaking(t *testing.T) {
	var p Positions
	if p.Taking('a') != set() {
		t.Errorf("no positions, but some match a byte")
	}
	p.Read("a.[^a]")
	p.Read("\\a[a-c]")
	for _, c := range []struct {
		b    byte
		want sets.Set
	}{
		{'a', set(0, 1, 3, 4)}, {'b', set(1, 2, 4)}, {'d', set(1, 2)}, {'\n', set(2)}, {0, set(1, 2)}, {255, set(1, 2)},
	} {
		if got := p.Taking(c.b); got != c.want {
			t.Errorf("Taking(%q) = %v, want %v", c.b, got, c.want)
		}
	}
}

func TestBehind(t *testing.T) {
	var p Positions
	p.Read("(ab)*c")
	p.Read("d")
	for _, c := range []struct{ hit, want sets.Set }{
		{set(), set()}, {set(0), set(1)}, {set(1), set(0, 2)}, {set(0, 1), set(0, 1, 2)}, {set(2), set()}, {set(2, 3), set()}, {set(1, 3), set(0, 2)},
	} {
		if got := p.Behind(c.hit); got != c.want {
			t.Errorf("Behind(%v) = %v, want %v", c.hit, got, c.want)
		}
	}
}

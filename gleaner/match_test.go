package gleaner_test

import (
	"strings"
	"sync"
	"testing"

	"gleaner/api"
	"gleaner/gleaner"
)

func checkMatch(t *testing.T, pattern, text string, want bool) {
	t.Helper()
	if matches, wrong := gleaner.Match(pattern, text); matches != want || wrong != api.OK {
		t.Errorf("P3: Match(%q, %q) = %v, %d, want %v", pattern, text, matches, wrong, want)
	}
}

func TestMatches(t *testing.T) {
	for _, c := range []struct {
		pattern string
		yes, no []string
	}{
		{"", []string{""}, []string{"a", "\x00", "\n"}},
		{"()", []string{""}, []string{"(", "()"}},
		{"|", []string{""}, []string{"|", "a"}},
		{"|a", []string{"", "a"}, []string{"|a", "aa"}},
		{"(a||b)c", []string{"c", "ac", "bc"}, []string{"", "a", "abc"}},
		{"if", []string{"if"}, []string{"", "i", "f", "iff", "fi", "IF", "if ", " if"}},
		{"ab|cd|e", []string{"ab", "cd", "e"}, []string{"abd", "acd", "ae", "abe", "abcd"}},
		{"a*", []string{"", "a", "aaaa"}, []string{"b", "aab", "baa"}},
		{"a+", []string{"a", "aaaa"}, []string{"", "b"}},
		{"a?", []string{"", "a"}, []string{"aa", "?"}},
		{"ab*", []string{"a", "abb"}, []string{"abab", "", "b"}},
		{"(ab)*", []string{"", "ab", "abab"}, []string{"a", "aba", "abb"}},
		{"(ab)+", []string{"ab", "ababab"}, []string{"", "ba"}},
		{"a**", []string{"", "aa"}, []string{"b"}},
		{"a+*", []string{"", "aa"}, []string{"b"}},
		{"a+?", []string{"", "a", "aa"}, []string{"b"}},
		{"a?+", []string{"", "a", "aa"}, []string{"b"}},
		{"a??", []string{"", "a"}, []string{"aa"}},
		{"a++", []string{"a", "aa"}, []string{""}},
		{"()+a", []string{"a"}, []string{"", "aa"}},
		{"(a*b*)*c", []string{"c", "abbac"}, []string{"", "ab", "cc"}},
		{"(a|b)*abb", []string{"abb", "aabb", "babbabb"}, []string{"", "ab", "abba"}},
		{"a.c", []string{"abc", "a.c", "a\x00c", "a\xffc", "a\rc"}, []string{"a\nc", "ac", "abbc"}},
		{"\\.", []string{"."}, []string{"a", "\\", "\\."}},
		{"\\a\\\\", []string{"a\\"}, []string{"\\a\\\\", "a"}},
		{"\\n", []string{"n"}, []string{"\n", "\\n"}},
		{"^a-$", []string{"^a-$"}, []string{"a-", "a"}},
		{"a{2}", []string{"a{2}"}, []string{"aa"}},
		{"[a-z]+", []string{"a", "iffy", "z"}, []string{"", "A", "a9", "a-z"}},
		{"[.]", []string{"."}, []string{"a"}},
		{"[(|)*]+", []string{"(|)*", "*"}, []string{"", "a", "\\"}},
		{"[\\]\\^\\-\\[\\\\]+", []string{"]^-[\\"}, []string{"", "a"}},
		{"[*-\\-]", []string{"*", "+", ",", "-"}, []string{")", ".", "\\"}},
	} {
		for _, text := range c.yes {
			checkMatch(t, c.pattern, text, true)
		}
		for _, text := range c.no {
			checkMatch(t, c.pattern, text, false)
		}
	}
}

func TestAtomsAtEachByte(t *testing.T) {
	for b := range 256 {
		text := string([]byte{byte(b)})
		within := func(first, last int) bool { return first <= b && b <= last }
		checkMatch(t, ".", text, b != 10)
		checkMatch(t, "[^a]", text, b != 'a')
		checkMatch(t, "[^b-dx\\^]", text, !within('b', 'd') && b != 'x' && b != '^')
		checkMatch(t, "[b-dx\\^]", text, within('b', 'd') || b == 'x' || b == '^')
		checkMatch(t, "[ -~]", text, within(32, 126))
		checkMatch(t, "[^ -~]", text, !within(32, 126))
		checkMatch(t, "[m-m]", text, b == 'm')
		checkMatch(t, "[c-ea-d]", text, within('a', 'e'))
		for a := 32; a <= 126; a++ {
			matchOneByte(t, byte(a), byte(b))
		}
	}
}

// matchOneByte holds each way to write the byte a against the text of b.
func matchOneByte(t *testing.T, a, b byte) {
	t.Helper()
	written, text := string([]byte{a}), string([]byte{b})
	checkMatch(t, "\\"+written, text, a == b)
	checkMatch(t, "[\\"+written+"]", text, a == b)
	checkMatch(t, "[^\\"+written+"]", text, a != b)
	if !strings.Contains("()[]|*+?.\\", written) {
		checkMatch(t, written, text, a == b)
	}
	if !strings.Contains("[]^-\\", written) {
		checkMatch(t, "["+written+"]", text, a == b)
	}
}

func TestLongTexts(t *testing.T) {
	long := strings.Repeat("ab", 500000)
	checkMatch(t, "(a*b*)*", long, true)
	checkMatch(t, "(a?b?)+a", long, false)
	checkMatch(t, "((a|b|)*)*", long+"c", false)
}

func TestFullPatterns(t *testing.T) {
	checkMatch(t, strings.Repeat("a", 16), strings.Repeat("a", 16), true)
	checkMatch(t, strings.Repeat("a", 16), strings.Repeat("a", 15), false)
	checkMatch(t, strings.Repeat("a?", 8), strings.Repeat("a", 8), true)
	checkMatch(t, strings.Repeat("a?", 8), strings.Repeat("a", 9), false)
}

// piece is a piece of a pattern with its meaning, taken word by word from the document.
type piece struct {
	written string
	rank    int // 0 an alt, 1 a cat, 2 a rep or an atom
	ends    func(text string, from int) ends
}

// ends has a bit for each place of a short text.
type ends uint32

func (e ends) has(place int) bool { return e>>place&1 == 1 }

func then(e ends, text string, next func(string, int) ends) ends {
	var all ends
	for place := range len(text) + 1 {
		if e.has(place) {
			all |= next(text, place)
		}
	}
	return all
}

func bracketed(p piece, rank int) string {
	if p.rank < rank {
		return "(" + p.written + ")"
	}
	return p.written
}

func atomPiece(written string, has func(b byte) bool) piece {
	return piece{written, 2, func(text string, from int) ends {
		if from < len(text) && has(text[from]) {
			return 1 << (from + 1)
		}
		return 0
	}}
}

func emptyPiece() piece {
	return piece{"", 1, func(_ string, from int) ends { return 1 << from }}
}

func catPiece(left, right piece) piece {
	return piece{bracketed(left, 1) + bracketed(right, 1), 1, func(text string, from int) ends {
		return then(left.ends(text, from), text, right.ends)
	}}
}

func altPiece(left, right piece) piece {
	return piece{left.written + "|" + right.written, 0, func(text string, from int) ends {
		return left.ends(text, from) | right.ends(text, from)
	}}
}

func repPiece(inner piece, sign byte) piece {
	return piece{bracketed(inner, 2) + string(sign), 2, func(text string, from int) ends {
		if sign == '?' {
			return 1<<from | inner.ends(text, from)
		}
		found := ends(1 << from)
		if sign == '+' {
			found = inner.ends(text, from)
		}
		// Each round adds what one more of them reaches; a text has no more places than that to reach.
		for range len(text) + 1 {
			found |= then(found, text, inner.ends)
		}
		return found
	}}
}

func reps(pieces []piece) []piece {
	var all []piece
	for _, p := range pieces {
		for _, sign := range []byte("*+?") {
			all = append(all, repPiece(p, sign))
		}
	}
	return all
}

func pairs(lefts, rights []piece) []piece {
	var all []piece
	for _, left := range lefts {
		for _, right := range rights {
			all = append(all, catPiece(left, right), altPiece(left, right))
		}
	}
	return all
}

func somePieces() []piece {
	atoms := []piece{
		emptyPiece(),
		atomPiece("a", func(b byte) bool { return b == 'a' }),
		atomPiece("\\.", func(b byte) bool { return b == '.' }),
		atomPiece(".", func(b byte) bool { return b != '\n' }),
		atomPiece("[^a]", func(b byte) bool { return b != 'a' }),
	}
	small := append(reps(atoms), pairs(atoms, atoms)...)
	middle := append(reps(small), pairs(small, atoms)...)
	middle = append(middle, pairs(atoms, small)...)
	all := append(append(atoms, small...), middle...)
	return append(all, reps(middle)...)
}

func shortTexts() []string {
	all := []string{""}
	for i := 0; len(all[i]) < 3; i++ {
		for _, b := range "a.\nb" {
			all = append(all, all[i]+string(b))
		}
	}
	return all
}

func TestMeaningOfPatterns(t *testing.T) {
	texts := shortTexts()
	for _, p := range somePieces() {
		if len(p.written) > api.MaxPattern {
			continue
		}
		for _, text := range texts {
			want := p.ends(text, 0).has(len(text))
			if matches, wrong := gleaner.Match(p.written, text); matches != want || wrong != api.OK {
				t.Fatalf("P3: Match(%q, %q) = %v, %d, want %v", p.written, text, matches, wrong, want)
			}
		}
	}
}

func TestEveryCallEnds(t *testing.T) {
	for a := range 256 {
		for b := range 256 {
			pattern := string([]byte{byte(a), byte(b)})
			wrong, place := gleaner.Right(pattern)
			if place < 0 || place > len(pattern) || wrong == api.OK && place != 0 {
				t.Fatalf("P1: Right(%q) = %d, %d", pattern, wrong, place)
			}
			matches, again := gleaner.Match(pattern, pattern)
			if again != wrong || wrong != api.OK && matches {
				t.Fatalf("P1: Match(%q, %q) = %v, %d, but Right tells %d", pattern, pattern, matches, again, wrong)
			}
		}
	}
}

func TestAnswersHangOnArgumentsAlone(t *testing.T) {
	var all sync.WaitGroup
	for range 8 {
		all.Go(func() {
			for range 500 {
				checkMatch(t, "(a|b)*c", "abac", true)
				checkMatch(t, "(a|b)*", "abac", false)
				if wrong, place := gleaner.Right("a|(b"); wrong != api.ErrEnd || place != 4 {
					t.Errorf("P2: Right(%q) = %d, %d", "a|(b", wrong, place)
				}
			}
		})
	}
	all.Wait()
}

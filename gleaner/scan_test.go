package gleaner_test

import (
	"slices"
	"strings"
	"sync"
	"testing"

	"gleaner/api"
	"gleaner/gleaner"
)

func lexerOf(t *testing.T, rules ...string) *gleaner.Lexer {
	t.Helper()
	lexer, wrong, number, place := gleaner.Make(rules)
	if lexer == nil || wrong != api.OK || number != 0 || place != 0 {
		t.Fatalf("P4: Make(%q) = %v, %d, %d, %d", rules, lexer != nil, wrong, number, place)
	}
	return lexer
}

func checkScan(t *testing.T, lexer *gleaner.Lexer, text string, end int, want ...api.Token) {
	t.Helper()
	if tokens, to := lexer.Scan(text); !slices.Equal(tokens, want) || to != end {
		t.Errorf("P6: Scan(%q) = %v, %d, want %v, %d", text, tokens, to, want, end)
	}
}

// cut tells tokens by their rules and texts, which stand one behind the other.
func cut(rulesAndTexts ...any) []api.Token {
	var tokens []api.Token
	at := 0
	for i := 0; i < len(rulesAndTexts); i += 2 {
		to := at + len(rulesAndTexts[i+1].(string))
		tokens = append(tokens, api.Token{Rule: rulesAndTexts[i].(int), From: at, To: to})
		at = to
	}
	return tokens
}

type cutting struct {
	text string
	end  int
	want []api.Token
}

func checkCuttings(t *testing.T, rules []string, cuttings ...cutting) {
	t.Helper()
	lexer := lexerOf(t, rules...)
	for _, c := range cuttings {
		checkScan(t, lexer, c.text, c.end, c.want...)
	}
}

func TestWords(t *testing.T) {
	checkCuttings(t, []string{"if", "[a-z]+", " +"},
		cutting{"if iffy 9", 8, cut(0, "if", 2, " ", 1, "iffy", 2, " ")},
		cutting{"", 0, nil},
		cutting{"9", 0, nil},
		cutting{"i", 1, cut(1, "i")},
		cutting{"if", 2, cut(0, "if")},
		cutting{"ifif", 4, cut(1, "ifif")},
		cutting{"if  if", 6, cut(0, "if", 2, "  ", 0, "if")},
		cutting{"if9if", 2, cut(0, "if")},
		cutting{" \n", 1, cut(2, " ")},
	)
}

func TestFirstRuleOfEquals(t *testing.T) {
	checkCuttings(t, []string{"[a-z]+", "if"}, cutting{"if", 2, cut(0, "if")})
	checkCuttings(t, []string{"x", "x", "x"}, cutting{"xx", 2, cut(0, "x", 0, "x")})
	checkCuttings(t, []string{"a", ".", "b", "[^c]"}, cutting{"abc\n", 4, cut(0, "a", 1, "b", 1, "c", 3, "\n")})
	checkCuttings(t, []string{"f", "e", "d", "c", "b", "a|b"}, cutting{"abf", 3, cut(5, "a", 4, "b", 0, "f")})
	// A longer token goes ahead of an earlier rule.
	checkCuttings(t, []string{"a", "aa", "aaa"}, cutting{"aaaaa", 5, cut(2, "aaa", 1, "aa")})
	checkCuttings(t, []string{"a|ab|abc", "abcd"}, cutting{"abcabcdab", 9, cut(0, "abc", 1, "abcd", 0, "ab")})
}

func TestFallingBack(t *testing.T) {
	checkCuttings(t, []string{"a", "aab", "b"}, cutting{"aaaab", 5, cut(0, "a", 0, "a", 1, "aab")})
	checkCuttings(t, []string{"a", "aaab"},
		cutting{"aaaac", 4, cut(0, "a", 0, "a", 0, "a", 0, "a")},
		cutting{"aaaab", 5, cut(0, "a", 1, "aaab")},
	)
	// Past several states that did not accept, and to the last that did, not to the first.
	checkCuttings(t, []string{"a", "ab", "abcdef", "c|d|e"},
		cutting{"abcdeabcdef", 11, cut(1, "ab", 3, "c", 3, "d", 3, "e", 2, "abcdef")},
		cutting{"abcdx", 4, cut(1, "ab", 3, "c", 3, "d")},
		cutting{"abcdf", 4, cut(1, "ab", 3, "c", 3, "d")},
	)
	// There is nothing to fall back to: it ends where the token would have begun.
	checkCuttings(t, []string{"abc", "b"},
		cutting{"abcab", 3, cut(0, "abc")},
		cutting{"babx", 1, cut(1, "b")},
		cutting{"abx", 0, nil},
	)
	// What was accepted ahead of a token is not what the next one falls back to.
	checkCuttings(t, []string{"a", "bc"}, cutting{"abb", 1, cut(0, "a")})
}

func TestTextEndsWithinToken(t *testing.T) {
	checkCuttings(t, []string{"a", "a*b"},
		cutting{"aaaa", 4, cut(0, "a", 0, "a", 0, "a", 0, "a")},
		cutting{"aab", 3, cut(1, "aab")},
	)
	checkCuttings(t, []string{"\"[^\"]*\"", "[a-z]"},
		cutting{"a\"bc\"", 5, cut(1, "a", 0, "\"bc\"")},
		cutting{"a\"bc", 1, cut(1, "a")},
		cutting{"\"", 0, nil},
	)
}

func TestNoTokenWithoutBytes(t *testing.T) {
	checkCuttings(t, []string{""}, cutting{"", 0, nil}, cutting{"a", 0, nil}, cutting{"\x00", 0, nil})
	checkCuttings(t, []string{"a*"}, cutting{"", 0, nil}, cutting{"b", 0, nil}, cutting{"aa", 2, cut(0, "aa")}, cutting{"aab", 2, cut(0, "aa")})
	checkCuttings(t, []string{"a*", "b?"}, cutting{"aabab", 5, cut(0, "aa", 1, "b", 0, "a", 1, "b")})
	checkCuttings(t, []string{"", "()", "|", "a"}, cutting{"aa", 2, cut(3, "a", 3, "a")})
	checkCuttings(t, []string{"(a|)b*", "c*"}, cutting{"abbcb", 5, cut(0, "abb", 1, "c", 0, "b")})
}

func TestTokensOfEachByte(t *testing.T) {
	lexer := lexerOf(t, "[ -~]", ".+", "[^a]")
	for b := range 256 {
		rule := 1
		if 32 <= b && b <= 126 {
			rule = 0
		} else if b == '\n' {
			rule = 2
		}
		checkScan(t, lexer, string([]byte{byte(b)}), 1, api.Token{Rule: rule, From: 0, To: 1})
	}
	checkCuttings(t, []string{".+", "[^ -~]"}, cutting{"ab\n\xff", 4, cut(0, "ab", 1, "\n", 0, "\xff")})
	// Bytes are counted, not letters.
	checkCuttings(t, []string{".", "a"}, cutting{"ä", 2, cut(0, "\xc3", 0, "\xa4")})
	// All bytes of one class, over the whole of a text.
	checkCuttings(t, []string{"[^a]*"}, cutting{"\x00\n\xff\x7f b", 6, cut(0, "\x00\n\xff\x7f b")})
}

func TestScanOfLongText(t *testing.T) {
	lexer := lexerOf(t, "[a-z]+", " ", "[a-z]+ *;")
	text := strings.Repeat("some words ", 50000)
	tokens, end := lexer.Scan(text + "\n")
	if len(tokens) != 200000 || end != len(text) {
		t.Fatalf("P6: %d tokens, end %d", len(tokens), end)
	}
	if last := (api.Token{Rule: 1, From: len(text) - 1, To: len(text)}); tokens[199999] != last {
		t.Errorf("P6: the last token is %v, want %v", tokens[199999], last)
	}
	if tokens, end := lexerOf(t, "a*").Scan(strings.Repeat("a", 1000000)); len(tokens) != 1 || end != 1000000 {
		t.Errorf("P6: %d tokens, end %d", len(tokens), end)
	}
}

// longest tells the token at a place by the meaning of the rules, word by word.
func longest(rules []piece, text string, from int) (api.Token, bool) {
	for to := len(text); to > from; to-- {
		for i, rule := range rules {
			if rule.ends(text, from).has(to) {
				return api.Token{Rule: i, From: from, To: to}, true
			}
		}
	}
	return api.Token{}, false
}

func checkMeaning(t *testing.T, rules []piece, texts []string) int {
	t.Helper()
	var written []string
	for _, rule := range rules {
		written = append(written, rule.written)
	}
	lexer := lexerOf(t, written...)
	count := 0
	for _, text := range texts {
		var want []api.Token
		end := 0
		for token, more := longest(rules, text, 0); more; token, more = longest(rules, text, end) {
			want = append(want, token)
			end = token.To
		}
		if tokens, to := lexer.Scan(text); !slices.Equal(tokens, want) || to != end {
			t.Fatalf("P6: Scan(%q) by %q = %v, %d, want %v, %d", text, written, tokens, to, want, end)
		}
		count += len(want)
	}
	return count
}

func TestMeaningOfRules(t *testing.T) {
	var pieces []piece
	for _, p := range somePieces() {
		if len(p.written) <= api.MaxPattern {
			pieces = append(pieces, p)
		}
	}
	texts := shortTexts()
	for _, text := range texts {
		texts = append(texts, "a.a"+text, text+"ba")
	}
	seed, count := 1, 0
	pick := func() piece {
		seed = seed * 48271 % 2147483647
		return pieces[seed%len(pieces)]
	}
	for i := range 1200 {
		var rules []piece
		for range 1 + i%6 {
			rules = append(rules, pick())
		}
		count += checkMeaning(t, rules, texts)
	}
	if count < 100000 {
		t.Errorf("only %d tokens were cut", count)
	}
}

func TestTokensAreFresh(t *testing.T) {
	lexer := lexerOf(t, "a", "b")
	want := cut(0, "a", 1, "b", 0, "a")
	first, _ := lexer.Scan("aba")
	second, _ := lexer.Scan("aba")
	clear(first[:cap(first)])
	if !slices.Equal(second, want) {
		t.Errorf("P2: tokens share memory: %v, want %v", second, want)
	}
	checkScan(t, lexer, "aba", 3, want...)
}

func TestScanChangesNothing(t *testing.T) {
	lexer, other := lexerOf(t, "a", "a*b"), lexerOf(t, "[ab]+")
	var all sync.WaitGroup
	for range 8 {
		all.Go(func() {
			for range 200 {
				checkScan(t, lexer, "aac", 2, cut(0, "a", 0, "a")...)
				checkScan(t, other, "aac", 2, cut(0, "aa")...)
				checkScan(t, lexer, "aab", 3, cut(1, "aab")...)
			}
		})
	}
	all.Wait()
}

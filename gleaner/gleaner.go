// Package gleaner: texts cut into tokens, by one table: see DOC.md.
package gleaner

import (
	"gleaner/api"
	"gleaner/pattern"
)

// Lexer has a table.
type Lexer struct{}

func read(text string) (*pattern.Positions, pattern.Part, api.Errno, int) {
	positions := &pattern.Positions{}
	whole, wrong, place := positions.Read(text)
	return positions, whole, wrong, place
}

// Right tells what is wrong with a pattern, and where (P3).
func Right(pattern string) (api.Errno, int) {
	_, _, wrong, place := read(pattern)
	return wrong, place
}

// Match tells whether a pattern matches a text (P3).
func Match(pattern string, text string) (bool, api.Errno) {
	positions, whole, wrong, _ := read(pattern)
	if wrong != api.OK {
		return false, wrong
	}
	return positions.Matches(whole, text), api.OK
}

// Make makes a lexer of rules; if one is wrong, it and the place are told (P4).
func Make(rules []string) (*Lexer, api.Errno, int, int) { return nil, api.OK, 0, 0 }

// Scan cuts a text into tokens, and tells where it ended (P6).
func (l *Lexer) Scan(text string) ([]api.Token, int) { return nil, 0 }

// Table tells the table (P5).
func (l *Lexer) Table() api.Table { return api.Table{} }

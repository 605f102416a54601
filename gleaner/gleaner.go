// Package gleaner: texts cut into tokens, by one table: see DOC.md.
package gleaner

import (
	"slices"

	"gleaner/api"
	"gleaner/pattern"
	"gleaner/smallest"
	"gleaner/states"
)

// Lexer has the smallest table of its rules.
type Lexer struct {
	table api.Table
}

func read(text string) (*pattern.Positions, pattern.Part, api.Errno, int) {
	positions := &pattern.Positions{}
	whole, wrong, place := positions.Read(text)
	return positions, whole, wrong, place
}

// Right tells what is wrong with a pattern, and where (P3).
func Right(pattern string) (api.Errno, int) {
	_, _, wrong, place := read(pattern)
	return wrong, place
}

// Match tells whether a pattern matches a text (P3).
func Match(pattern string, text string) (bool, api.Errno) {
	positions, whole, wrong, _ := read(pattern)
	if wrong != api.OK {
		return false, wrong
	}
	return positions.Matches(whole, text), api.OK
}

// Make makes a lexer of rules; if one is wrong, it and the place are told (P4).
func Make(rules []string) (*Lexer, api.Errno, int, int) {
	if len(rules) == 0 || len(rules) > api.MaxRules {
		return nil, api.ErrMany, 0, 0
	}
	positions := &pattern.Positions{}
	wholes := make([]pattern.Part, len(rules))
	for i, rule := range rules {
		whole, wrong, place := positions.Read(rule)
		if wrong != api.OK {
			return nil, wrong, i, place
		}
		wholes[i] = whole
	}
	table, few := states.Table(positions, wholes)
	if !few {
		return nil, api.ErrStates, 0, 0
	}
	return &Lexer{table: smallest.Table(table)}, api.OK, 0, 0
}

// Scan cuts a text into tokens, and tells where it ended (P6).
func (l *Lexer) Scan(text string) ([]api.Token, int) {
	var tokens []api.Token
	var state, at int
	var best api.Token

begin:
	state, at = 0, best.To
	best = api.Token{Rule: states.None, From: at, To: at}

step:
	if at == len(text) {
		goto cut
	}
	state = l.table.Next[state][l.table.Classes[text[at]]]
	if state == states.None {
		goto cut
	}
	at++
	if rule := l.table.Accept[state]; rule != states.None {
		best.Rule, best.To = rule, at
	}
	goto step

cut:
	if best.Rule == states.None {
		return tokens, best.From
	}
	tokens = append(tokens, best)
	goto begin
}

// Table tells the table (P5), as a copy that is the caller's.
func (l *Lexer) Table() api.Table {
	table := api.Table{Classes: l.table.Classes, Accept: slices.Clone(l.table.Accept)}
	for _, row := range l.table.Next {
		table.Next = append(table.Next, slices.Clone(row))
	}
	return table
}

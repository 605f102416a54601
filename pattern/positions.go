// Package pattern reads patterns into positions, and matches texts by them.
package pattern

import "gleaner/sets"

// Positions are the atoms of patterns that match one byte, numbered as they are read.
// A pattern has at most as many as it has bytes, so all positions of 6 patterns fit a set.
type Positions struct {
	bytes  []sets.Set // of each position the bytes that it matches
	follow []sets.Set // of each position those that may stand behind it
}

// Part is what a piece of a pattern shows to its neighbours.
type Part struct {
	Empty bool     // it matches the text of no bytes
	First sets.Set // the positions with which its texts may begin
	Last  sets.Set // the positions with which its texts may end
}

// nothing matches the text of no bytes alone.
func nothing() Part {
	return Part{Empty: true}
}

func (p *Positions) add(bytes sets.Set) Part {
	self := sets.One(uint8(len(p.bytes)))
	p.bytes = append(p.bytes, bytes)
	p.follow = append(p.follow, sets.Set{})
	return Part{First: self, Last: self}
}

func (p *Positions) link(ends, starts sets.Set) {
	for n := range p.follow {
		if ends.Has(uint8(n)) {
			p.follow[n] = sets.Union(p.follow[n], starts)
		}
	}
}

func (p *Positions) chain(left, right Part) Part {
	p.link(left.Last, right.First)
	whole := Part{Empty: left.Empty && right.Empty, First: left.First, Last: right.Last}
	if left.Empty {
		whole.First = sets.Union(left.First, right.First)
	}
	if right.Empty {
		whole.Last = sets.Union(left.Last, right.Last)
	}
	return whole
}

func either(left, right Part) Part {
	return Part{
		Empty: left.Empty || right.Empty,
		First: sets.Union(left.First, right.First),
		Last:  sets.Union(left.Last, right.Last),
	}
}

// repeat takes `*`, `+` or `?` as the sign.
func (p *Positions) repeat(part Part, sign byte) Part {
	if sign != '?' {
		p.link(part.Last, part.First)
	}
	if sign != '+' {
		part.Empty = true
	}
	return part
}

// Matches tells whether the text, all of it, is one of the part's.
func (p *Positions) Matches(whole Part, text string) bool {
	open, done := whole.First, whole.Empty
	for i := range len(text) {
		hit := open.Common(p.Taking(text[i]))
		if hit == (sets.Set{}) {
			return false
		}
		open, done = p.Behind(hit), hit.Meets(whole.Last)
	}
	return done
}

// Taking has the positions that match the byte.
func (p *Positions) Taking(b byte) sets.Set {
	var taking sets.Set
	for n, bytes := range p.bytes {
		if bytes.Has(b) {
			taking = sets.Union(taking, sets.One(uint8(n)))
		}
	}
	return taking
}

// Behind has the positions that may follow one of those that were hit.
func (p *Positions) Behind(hit sets.Set) sets.Set {
	var open sets.Set
	for n, next := range p.follow {
		if hit.Has(uint8(n)) {
			open = sets.Union(open, next)
		}
	}
	return open
}

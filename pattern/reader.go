package pattern

import (
	"strings"

	"gleaner/api"
	"gleaner/sets"
)

const (
	leastByte    = ' '
	greatestByte = '~'
	lineFeed     = '\n'
)

// Read adds the positions of a pattern; or tells what is wrong with it, and where.
// If it is wrong, the positions are of no use any more.
func (p *Positions) Read(text string) (Part, api.Errno, int) {
	if len(text) > api.MaxPattern {
		return Part{}, api.ErrLong, 0
	}
	for i := range len(text) {
		if text[i] < leastByte || text[i] > greatestByte {
			return Part{}, api.ErrByte, i
		}
	}
	r := reader{text: text, positions: p}
	whole := r.alt()
	if !r.ended() {
		r.fail(api.ErrSyntax, r.at)
	}
	if r.wrong != api.OK {
		return Part{}, r.wrong, r.place
	}
	return whole, api.OK, 0
}

// reader goes through a pattern by the grammar, with one method a rule of it.
type reader struct {
	text      string
	at        int
	positions *Positions
	wrong     api.Errno
	place     int
}

// fail keeps the first fault alone, and goes to the end, so that every loop of the reader stops.
func (r *reader) fail(wrong api.Errno, place int) {
	if r.wrong == api.OK {
		r.wrong, r.place = wrong, place
	}
	r.at = len(r.text)
}

func (r *reader) ended() bool {
	return r.at == len(r.text)
}

// sees tells whether the next byte is one of those.
func (r *reader) sees(those string) bool {
	return !r.ended() && strings.IndexByte(those, r.text[r.at]) >= 0
}

// take goes past the next byte, if it is that one.
func (r *reader) take(b byte) bool {
	if r.ended() || r.text[r.at] != b {
		return false
	}
	r.at++
	return true
}

// next goes past the next byte, which must be there.
func (r *reader) next() byte {
	if r.ended() {
		r.fail(api.ErrEnd, len(r.text))
		return 0
	}
	b := r.text[r.at]
	r.at++
	return b
}

// shut goes past a closing byte; what is open ahead of it goes on up to there, so that only the end can stand in its stead.
func (r *reader) shut(b byte) {
	if !r.take(b) {
		r.fail(api.ErrEnd, len(r.text))
	}
}

func (r *reader) alt() Part {
	whole := r.cat()
	for r.take('|') {
		whole = either(whole, r.cat())
	}
	return whole
}

func (r *reader) cat() Part {
	whole := nothing()
	for !r.ended() && !r.sees("|)") {
		whole = r.positions.chain(whole, r.rep())
	}
	return whole
}

func (r *reader) rep() Part {
	part := r.atom()
	for r.sees("*+?") {
		part = r.positions.repeat(part, r.next())
	}
	return part
}

func (r *reader) atom() Part {
	place := r.at
	switch b := r.next(); b {
	case '(':
		inner := r.alt()
		r.shut(')')
		return inner
	case '[':
		return r.positions.add(r.set())
	case '.':
		return r.positions.add(sets.One(lineFeed).Others())
	case '\\':
		return r.positions.add(sets.One(r.next()))
	case ')', ']', '|', '*', '+', '?':
		r.fail(api.ErrSyntax, place)
		return nothing()
	default:
		return r.positions.add(sets.One(b))
	}
}

// set reads what stands behind `[`, and the `]` too.
func (r *reader) set() sets.Set {
	inverse := r.take('^')
	items := []sets.Set{r.item()}
	for !r.ended() && !r.sees("]") {
		items = append(items, r.item())
	}
	r.shut(']')
	whole := sets.Union(items...)
	if inverse {
		return whole.Others()
	}
	return whole
}

func (r *reader) item() sets.Set {
	place := r.at
	first := r.one()
	last := first
	if r.take('-') {
		last = r.one()
	}
	if first > last {
		r.fail(api.ErrSet, place)
	}
	return sets.Span(first, last)
}

func (r *reader) one() byte {
	place := r.at
	switch b := r.next(); b {
	case '\\':
		return r.next()
	case '[', ']', '^', '-':
		r.fail(api.ErrSyntax, place)
		return 0
	default:
		return b
	}
}

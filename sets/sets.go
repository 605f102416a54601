// Package sets has sets of small numbers: bytes, and positions of patterns.
package sets

// Count is how many numbers a set can have: those from 0 to Count-1.
const Count = 256

const wordBits = 64

// Set is an array, so that two sets can be compared, and a copy shares nothing.
type Set [Count / wordBits]uint64

// One has one number.
func One(number uint8) Set {
	var s Set
	s[number/wordBits] = 1 << (number % wordBits)
	return s
}

// Span has all numbers from the first to the last one; none, if the first is above the last.
func Span(first, last uint8) Set {
	var s Set
	// Counted in int: a uint8 would never get past a last number of 255.
	for n := int(first); n <= int(last); n++ {
		s[n/wordBits] |= 1 << (n % wordBits)
	}
	return s
}

// Union has the numbers that at least one of the sets has.
func Union(all ...Set) Set {
	var whole Set
	for _, s := range all {
		for i, word := range s {
			whole[i] |= word
		}
	}
	return whole
}

// Others has the numbers that s does not have.
func (s Set) Others() Set {
	for i, word := range s {
		s[i] = ^word
	}
	return s
}

// Has tells whether the number is in s.
func (s Set) Has(number uint8) bool {
	return s[number/wordBits]>>(number%wordBits)&1 == 1
}

// Common has the numbers that both sets have.
func (s Set) Common(other Set) Set {
	for i, word := range other {
		s[i] &= word
	}
	return s
}

// Meets tells whether s and the other set have a number in common.
func (s Set) Meets(other Set) bool {
	return s.Common(other) != (Set{})
}

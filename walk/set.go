package walk

import "math/bits"

// Set: places of a text, from low to high.
type Set struct {
	low, high int
	words     []uint64
}

// NewSet: no place, of those from low to high.
func NewSet(low, high int) Set {
	return Set{low, high, make([]uint64, (high-low)/64+1)}
}

// All: the places from low to high.
func All(low, high int) Set {
	s := NewSet(low, high)
	for i := range s.words {
		s.words[i] = ^uint64(0)
	}
	return s
}

// One: the place at, of those from low to high.
func One(low, high, at int) Set {
	s := NewSet(low, high)
	s.Add(at)
	return s
}

// Add: the place p, too.
func (s Set) Add(p int) {
	s.words[(p-s.low)/64] |= 1 << ((p - s.low) % 64)
}

// Has: is the place p in it?
func (s Set) Has(p int) bool {
	return p >= s.low && p <= s.high && s.words[(p-s.low)/64]>>((p-s.low)%64)&1 == 1
}

// Least: its least place; -1, if it has none.
func (s Set) Least() int {
	for i, w := range s.words {
		if p := s.low + i*64 + bits.TrailingZeros64(w); w != 0 && p <= s.high {
			return p
		}
	}
	return -1
}

package match

import (
	"iter"
	"math/bits"
)

// places: a set of places in a word, a bit for each one from the word's beginning to its end.
type places [Most/64 + 1]uint64

// just: the set of one place.
func just(at int) places {
	var s places
	s[at/64] = 1 << (at % 64)
	return s
}

func (s places) has(at int) bool { return s[at/64]>>(at%64)&1 == 1 }

// add puts all of others into s.
func (s *places) add(others *places) {
	for i, word := range others {
		s[i] |= word
	}
}

// with: what is in one of both.
func (s places) with(others places) places {
	s.add(&others)
	return s
}

// less: what is in s, and not among others.
func (s places) less(others places) places {
	for i, word := range others {
		s[i] &^= word
	}
	return s
}

// each goes through the places of s, rising.
func (s places) each() iter.Seq[int] {
	return func(yield func(int) bool) {
		for i, word := range s {
			// What was told is taken out: the lowest bit that is left.
			for ; word != 0; word &= word - 1 {
				if !yield(64*i + bits.TrailingZeros64(word)) {
					return
				}
			}
		}
	}
}

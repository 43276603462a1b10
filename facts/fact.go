package facts

import (
	"doublet/api"
	"doublet/num"
	"doublet/sets"
)

// fact: of some words the lengths of the shortest and the longest ones (-1: there is no word), and the bytes with which they begin and end.
// Of endless ones no length is the longest; what stands there then says nothing.
type fact struct {
	shortest, longest int
	endless           bool
	first, last       api.Set
}

// noWord: the facts of no word. Those of the empty one are zero.
func noWord() fact { return fact{shortest: -1, longest: -1} }

func (f fact) hollow() bool { return f.shortest < 0 }

func (f fact) nullable() bool { return f.shortest == 0 }

// one: the facts of one byte of a set.
func one(s api.Set) fact {
	if s == (api.Set{}) {
		return noWord()
	}
	return fact{shortest: 1, longest: 1, first: s, last: s}
}

// joined: those of words one behind the other.
func joined(l ...fact) fact {
	var all fact
	for _, next := range l {
		if next.hollow() {
			return noWord()
		}
		if all.nullable() {
			all.first = sets.Union(all.first, next.first)
		}
		if next.nullable() {
			all.last = sets.Union(all.last, next.last)
		} else {
			all.last = next.last
		}
		all.shortest = num.Add(Top, all.shortest, next.shortest)
		all.longest = num.Add(Top, all.longest, next.longest)
		all.endless = all.endless || next.endless
	}
	return all
}

// either: those of words that are among one of some.
func either(l ...fact) fact {
	all := noWord()
	for _, next := range l {
		if all.hollow() || !next.hollow() && next.shortest < all.shortest {
			all.shortest = next.shortest
		}
		all.longest = max(all.longest, next.longest)
		all.endless = all.endless || next.endless
		all.first = sets.Union(all.first, next.first)
		all.last = sets.Union(all.last, next.last)
	}
	return all
}

// again: those of words one behind the other, from lo to hi of them.
func again(f fact, lo, hi int) fact {
	switch {
	case hi == 0, lo == 0 && f.hollow():
		return fact{}
	case f.hollow():
		return f
	}
	return fact{
		shortest: num.Mul(Top, lo, f.shortest),
		// Without an end, it is told in full where the longest one is empty; else nothing is the longest.
		longest: num.Mul(Top, hi, f.longest),
		endless: f.endless || hi == endless && f.longest > 0,
		first:   f.first,
		last:    f.last,
	}
}

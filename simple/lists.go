package simple

import (
	"math/bits"
	"slices"

	"doublet/api"
	"doublet/sets"
)

// flat: a list in which things are replaced by their parts, where parts tells some.
func flat[T any](l []T, parts func(x T) ([]T, bool)) []T {
	var all []T
	for _, x := range l {
		if within, ok := parts(x); ok {
			all = append(all, within...)
		} else {
			all = append(all, x)
		}
	}
	return all
}

// partsOf tells the Kids of trees of a kind.
func partsOf(kind api.Kind) func(x api.Node) ([]api.Node, bool) {
	is := isOf(kind)
	return func(x api.Node) ([]api.Node, bool) {
		if !is(x) {
			return nil, false
		}
		return x.Kids, true
	}
}

// isOf tells whether trees are of a kind.
func isOf(kind api.Kind) func(x api.Node) bool {
	return func(x api.Node) bool { return x.Kind == kind }
}

// oneSet: l with all bytes of its KindSet in the first one, and without the others.
func oneSet(l []api.Node) []api.Node {
	is := isOf(api.KindSet)
	first := slices.IndexFunc(l, is)
	if first < 0 {
		return l
	}
	behind := l[first+1:]
	for _, x := range behind {
		if is(x) {
			l[first].Set = sets.Union(l[first].Set, x.Set)
		}
	}
	return l[:first+1+len(slices.DeleteFunc(behind, is))]
}

// distinct: l without things that are the same as one ahead. Those that are the same have one mark, and few others have it:
// in a long list each thing held against each one ahead would take long.
func distinct[T any](l []T, mark func(x T) uint64, same func(x, y T) bool) []T {
	kept := make([]T, 0, len(l))
	met := make(map[uint64][]int, len(l))
	for _, x := range l {
		n := mark(x)
		if slices.ContainsFunc(met[n], func(at int) bool { return same(x, kept[at]) }) {
			continue
		}
		met[n] = append(met[n], len(kept))
		kept = append(kept, x)
	}
	return kept
}

// mark: a number that is one for trees that are the same, and hardly ever one for others.
func mark(x api.Node) uint64 {
	var n uint64
	put := func(word uint64) {
		// Any odd number does that has bits all over. The lower half of the product alone would tell little of high bits.
		high, low := bits.Mul64(n^word, 0x9e3779b97f4a7c15)
		n = high ^ low
	}
	put(uint64(x.Kind))
	for _, word := range x.Set {
		put(word)
	}
	put(uint64(x.Lo))
	put(uint64(x.Hi))
	for _, kid := range x.Kids {
		put(mark(kid))
	}
	return n
}

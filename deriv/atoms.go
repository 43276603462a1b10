package deriv

import (
	"cmp"
	"iter"
	"slices"

	"doublet/api"
	"doublet/sets"
	"doublet/tree"
)

// Atoms: bytes that a tree does not tell apart.
func Atoms(x api.Node) []api.Set {
	if !tree.Right(x) {
		return nil
	}
	l := []api.Set{sets.All()}
	for _, s := range tree.Leaves(x) {
		var finer []api.Set
		for part := range parted(l, s) {
			finer = append(finer, part)
		}
		l = finer
	}
	slices.SortFunc(l, func(a, b api.Set) int { return cmp.Compare(sets.Least(a), sets.Least(b)) })
	return l
}

// parted goes through the parts of sets that are in s, and those that are not.
func parted(l []api.Set, s api.Set) iter.Seq[api.Set] {
	return func(yield func(api.Set) bool) {
		for _, whole := range l {
			for _, part := range [2]api.Set{sets.Meet(whole, s), sets.Less(whole, s)} {
				if part != (api.Set{}) && !yield(part) {
					return
				}
			}
		}
	}
}

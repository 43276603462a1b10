package parts

import (
	"slices"
	"testing"

	"doublet/api"
	"doublet/sample"
	"doublet/sets"
)

// holdFiner: each set of a list is some of the classes together that Of tells; bytes of two classes are told apart by one of the sets, those of one class by none.
func holdFiner(t *testing.T, l []api.Set) {
	t.Helper()
	of, width := Of(l)
	holdRight(t, of, width, true)
	parts := Sets(of)
	for _, s := range l {
		var made api.Set
		for _, part := range parts {
			if sets.Meet(part, s) != (api.Set{}) {
				made = sets.Union(made, part)
			}
		}
		if made != s {
			t.Errorf("of %s a set is not some of %s", shownSets(l), shownSets(parts))
		}
	}
	for x := range 256 {
		for y := range x {
			if apart(l, x, y) != (of[x] != of[y]) {
				t.Fatalf("Of(%s) is %s, and has %d and %d wrong", shownSets(l), shown(of), y, x)
			}
		}
	}
}

// apart: does one of some sets tell two bytes apart?
func apart(l []api.Set, x, y int) bool {
	return slices.ContainsFunc(l, func(s api.Set) bool { return in(s, x) != in(s, y) })
}

// fewSets: all sets of some of a few bytes.
func fewSets(few ...byte) []api.Set {
	l := list(api.Set{})
	for _, b := range few {
		for _, s := range l {
			l = append(l, sets.Union(s, sets.Of(b)))
		}
	}
	return l
}

// All rows of up to three sets of a few bytes.
func TestP1904FewBytes(t *testing.T) {
	t.Parallel()
	l := fewSets(0, 64, 'a', 255)
	holdFiner(t, nil)
	for i, a := range l {
		holdFiner(t, list(a))
		holdFiner(t, list(sets.Not(a)))
		for j, b := range l[:i+1] {
			holdFiner(t, list(a, b))
			holdFiner(t, list(a, sets.Not(b)))
			for _, c := range l[:j+1] {
				if got, _ := Of(list(a, b, c)); got != numbers(foundIn(list(a, b, c))...) {
					t.Errorf("Of(%s) is %s", shownSets(list(a, b, c)), shown(got))
				}
			}
		}
	}
	holdFiner(t, l)
}

// foundIn: the classes of bytes that are in the same of a few sets, by their least bytes: each is a Meet of these sets or their opposites.
func foundIn(l []api.Set) []api.Set {
	var found []api.Set
	for code := range 1 << len(l) {
		part := sets.All()
		for i, s := range l {
			if code>>i&1 == 0 {
				s = sets.Not(s)
			}
			part = sets.Meet(part, s)
		}
		if part != (api.Set{}) {
			found = append(found, part)
		}
	}
	slices.SortFunc(found, func(a, b api.Set) int { return sets.Least(a) - sets.Least(b) })
	return found
}

func TestP1904RandomSets(t *testing.T) {
	t.Parallel()
	next := sample.Chances()
	for range 300 {
		holdFiner(t, anySets(12, next))
		if t.Failed() {
			return
		}
	}
	for _, l := range [][]api.Set{singles(), halves(), pairs(), slices.Concat(pairs(), halves()[:1]), anySets(300, next)} {
		holdFiner(t, l)
	}
}

// Of Sets of classes Of tells these again.
func TestP1904OfSets(t *testing.T) {
	t.Parallel()
	next := sample.Chances()
	hold := func(of classes) {
		t.Helper()
		want, width := Norm(of)
		l := Sets(of)
		got, n := Of(l)
		holdClasses(t, got, n, want, width, "Of the Sets of %s", shown(of))
		// What is in none of the others is of the first one.
		got, n = Of(l[1:])
		holdClasses(t, got, n, want, width, "Of the Sets, but the first one, of %s", shown(of))
	}
	for _, r := range normals() {
		hold(r.of)
	}
	for range 1000 {
		hold(anyClasses(next))
	}
}

// Join with itself changes nothing but the numbers; it does not hang on the order, nor on the numbers, nor on which two of three are joined first.
func TestP1904Join(t *testing.T) {
	t.Parallel()
	next := sample.Chances()
	for range 2000 {
		a, b, c := anyClasses(next), anyClasses(next), anyClasses(next)
		normal, width := Norm(a)
		holdJoin(t, a, a, normal, width)
		holdJoin(t, a, normal, normal, width)
		ab, width := Join(a, b)
		holdJoin(t, a, b, ab, width)
		holdJoin(t, normal, b, ab, width)
		holdJoin(t, ab, a, ab, width)
		holdJoin(t, ab, b, ab, width)
		if !Right(ab, width) {
			t.Errorf("Join(%s, %s) is %s, and %d", shown(a), shown(b), shown(ab), width)
		}
		bc, _ := Join(b, c)
		all, width := Join(ab, c)
		holdJoin(t, a, bc, all, width)
		if t.Failed() {
			return
		}
	}
}

// Join of what Of tells of two lists is what Of tells of both together.
func TestP1904JoinOfLists(t *testing.T) {
	t.Parallel()
	next := sample.Chances()
	for i := range 1500 {
		l, m := anySets(2+i%10, next), anySets(2+i%70, next)
		a, _ := Of(l)
		b, _ := Of(m)
		want, width := Of(slices.Concat(l, m))
		holdJoin(t, a, b, want, width)
		if t.Failed() {
			return
		}
	}
	few := fewSets(0, 64, 'a', 255)
	for _, s := range few {
		for _, other := range few {
			a, _ := Of(list(s))
			b, _ := Of(list(other))
			want, width := Of(list(s, other))
			holdJoin(t, a, b, want, width)
		}
	}
}

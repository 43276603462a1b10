package nfa

import (
	"slices"
	"testing"

	"doublet/api"
	"doublet/sample"
	"doublet/sets"
)

// holdSame: are two machines the same, in both orders?
func holdSame(t *testing.T, x, y api.Nfa, want bool) {
	t.Helper()
	if one, other := Same(x, y), Same(y, x); one != want || other != want {
		t.Errorf("Same is %t, and the other way %t, of\n%s, and\n%s", one, other, front(shown(x)), front(shown(y)))
	}
}

// cloned: a machine in other memory.
func cloned(n api.Nfa) api.Nfa {
	n.Links, n.Edges, n.Accept = slices.Clone(n.Links), slices.Clone(n.Edges), slices.Clone(n.Accept)
	return n
}

// without: a list without the one at a place.
func without[T any](l []T, at int) []T { return slices.Delete(slices.Clone(l), at, at+1) }

// twice: a list with the one at a place once more.
func twice[T any](l []T, at int) []T { return slices.Insert(slices.Clone(l), at, l[at]) }

// swapped: a list in which the one at a place stands behind the next one.
func swapped[T any](l []T, at int) []T {
	l = slices.Clone(l)
	l[at], l[at+1] = l[at+1], l[at]
	return l
}

// changed: lists that differ from one in how many there are, or in their order; of equal ones the order says nothing.
func changed[T comparable](l []T) [][]T {
	made := [][]T{slices.Concat(l, make([]T, 1)), slices.Concat(make([]T, 1), l)}
	if len(l) > 0 {
		made = append(made, nil)
	}
	for at := range l {
		made = append(made, without(l, at), twice(l, at))
		if at+1 < len(l) && l[at] != l[at+1] {
			made = append(made, swapped(l, at))
		}
	}
	return made
}

// others: machines that differ from one in one thing.
func others(n api.Nfa) []api.Nfa {
	var l []api.Nfa
	for at := range numbersOf(&n) {
		for _, more := range []int{1, -1, 1 << 32, 1 << 62} {
			x := cloned(n)
			*numbersOf(&x)[at] += more
			l = append(l, x)
		}
	}
	for at := range n.Edges {
		for _, bit := range []int{0, 1, 63, 64, 127, 128, 191, 192, 'a', 'b', 255} {
			x := cloned(n)
			x.Edges[at].Set[bit/64] ^= 1 << (bit % 64)
			l = append(l, x)
		}
	}
	for _, links := range changed(n.Links) {
		x := n
		x.Links = links
		l = append(l, x)
	}
	for _, edges := range changed(n.Edges) {
		x := n
		x.Edges = edges
		l = append(l, x)
	}
	for _, labels := range changed(n.Accept) {
		x := n
		x.Accept = labels
		l = append(l, x)
	}
	return l
}

func TestP1604SameButForOneThing(t *testing.T) {
	next := sample.Chances()
	l := []api.Nfa{{}, bare(1), bare(2), full(3), full(9), {States: -5, Start: 7, Links: []api.Link{{From: -1, To: 99}}, Accept: []int{700}}}
	for _, x := range append(sample.Around(), sample.Things()...) {
		if Weight(x) < 50 {
			l = append(l, made(t, x), made(t, x, a(), x))
		}
	}
	for range 100 {
		l = append(l, sample.AnyMachine(1+next(30), next))
	}
	for _, n := range l {
		holdSame(t, n, n, true)
		holdSame(t, n, cloned(n), true)
		kept := shown(n)
		for _, x := range others(n) {
			if shown(x) == kept {
				t.Fatalf("the test is wrong: nothing tells\n%s from\n%s", kept, shown(x))
			}
			holdSame(t, n, x, false)
		}
	}
}

// Of each pair of some machines, by texts of all that is in them.
func TestP1604SamePairs(t *testing.T) {
	next := sample.Chances()
	var l []api.Nfa
	for _, x := range sample.Things() {
		l = append(l, made(t, x), made(t, x))
	}
	for range 50 {
		n := sample.AnyMachine(1+next(30), next)
		l = append(l, n, cloned(n))
	}
	texts := make([]string, len(l))
	for i, n := range l {
		texts[i] = shown(n)
	}
	for i, x := range l {
		for j, y := range l {
			holdSame(t, x, y, texts[i] == texts[j])
		}
	}
}

// Lists without elements are the same, nil or not; and what lies behind a list is not of it.
func TestP1604SameLists(t *testing.T) {
	x := api.Nfa{States: 1, Accept: []int{0}}
	y := api.Nfa{States: 1, Accept: []int{0}, Links: []api.Link{}, Edges: make([]api.Edge, 0, 5)}
	holdSame(t, x, y, true)
	holdSame(t, api.Nfa{}, api.Nfa{Links: []api.Link{}, Edges: []api.Edge{}, Accept: []int{}}, true)
	x, y = full(9), full(9)
	x.Links = append(x.Links, api.Link{From: 1})[:len(x.Links)]
	y.Links = append(y.Links, api.Link{To: 2})[:len(y.Links)]
	x.Edges = append(x.Edges, api.Edge{Set: sets.All()})[:len(x.Edges)]
	x.Accept = append(x.Accept, 5)[:len(x.Accept)]
	holdSame(t, x, y, true)
}

// Great machines, which differ at the first or the last place alone.
func TestP1604SameGreat(t *testing.T) {
	n := made(t, of(6, rep(rep(of(5, a(), b()), 20, 20), 1000, 1000)), c())
	holdSame(t, n, cloned(n), true)
	l := numbersOf(&n)
	for _, at := range []int{0, 1, 2, 3, len(l) / 3, len(l) / 2, len(l) - 2, len(l) - 1} {
		x := cloned(n)
		*numbersOf(&x)[at] ^= 1
		holdSame(t, n, x, false)
	}
	x := cloned(n)
	x.Edges[len(x.Edges)-1].Set[3] ^= 1 << 63
	holdSame(t, n, x, false)
}

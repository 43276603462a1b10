package facts

import (
	"slices"
	"testing"

	"doublet/api"
	"doublet/sample"
	"doublet/sets"
)

// reach: a length that no word passes for which nothing is gone through again where it could be left.
// If there are longer words at all, then some of up to twice that length, for going through one more adds no more than reach.
func reach(x api.Node) int {
	n := 0
	for _, kid := range x.Kids {
		if x.Kind == 5 {
			n = max(n, reach(kid))
		} else {
			n += reach(kid)
		}
	}
	switch x.Kind {
	case 3:
		return 1
	case 9:
		return n * max(1, x.Lo, x.Hi)
	}
	return n
}

// answersOf: what is to be told of a tree by the list of its words, and the least one.
func answersOf(x api.Node) (answers, string) {
	n := reach(x)
	l := sample.Words(x, 2*n)
	want := ofNone()
	var word string
	for size, some := range l {
		if len(some) == 0 {
			continue
		}
		if want.hollow {
			want.hollow, want.nullable, want.shortest = false, size == 0, size
			for w := range some {
				if word == "" || w < word {
					word = w
				}
			}
		}
		want.longest = size
		for w := range some {
			if size > 0 {
				want.first = sets.Union(want.first, sets.Of(w[0]))
				want.last = sets.Union(want.last, sets.Of(w[size-1]))
			}
		}
	}
	if want.longest > n {
		want.bounded, want.longest = false, -1
	}
	return want, word
}

// holdListed: all calls, by the list of a tree's words.
func holdListed(t *testing.T, x api.Node) answers {
	t.Helper()
	want, word := answersOf(x)
	holdAll(t, x, want, word)
	return want
}

// The model itself, by lengths that are written out.
func TestReach(t *testing.T) {
	for text, want := range map[string]int{"": 0, "a": 1, "ab|c": 2, "a*b": 2, "(ab){3}": 6, "(ab){0}": 2, "(ab){2,}": 4, "(a{2}|b){1,3}": 6} {
		if got := reach(read(text)); got != want {
			t.Errorf("reach of %q is %d, want %d", text, got, want)
		}
	}
}

// counts: how many trees were told something.
type counts struct{ all, hollow, nullable, bounded, endless, ofWords int }

func (n *counts) add(x answers) {
	n.all++
	switch {
	case x.hollow:
		n.hollow++
	case x.bounded:
		n.bounded++
	default:
		n.endless++
	}
	if x.nullable {
		n.nullable++
	}
	if x.shortest > 0 {
		n.ofWords++
	}
}

// holdMany: there were enough trees of each sort.
func (n *counts) holdMany(t *testing.T, enough int) {
	t.Helper()
	if min(n.hollow, n.nullable, n.bounded, n.endless, n.ofWords) < enough {
		t.Errorf("of %d trees %d are hollow, %d nullable, %d bounded, %d endless, %d have no empty word", n.all, n.hollow, n.nullable, n.bounded, n.endless, n.ofWords)
	}
}

// All trees of up to three, four and five nodes, the greater ones of fewer leaves and numbers.
func TestAllSmallTrees(t *testing.T) {
	var n counts
	ends := [][2]int{{0, 0}, {0, -1}, {1, -1}, {2, -1}, {0, 1}, {0, 2}, {1, 1}, {1, 2}, {2, 2}}
	for _, l := range [][][]api.Node{
		sample.Every(3, []api.Node{none(), e(), hole(), a(), b(), leaf('a', 'c')}, ends...),
		sample.Every(4, []api.Node{none(), e(), a(), b()}, ends...),
		sample.Every(5, []api.Node{none(), e(), a(), b()}, [2]int{0, 0}, [2]int{2, -1}, [2]int{1, 2}),
	} {
		for _, x := range slices.Concat(l...) {
			n.add(holdListed(t, x))
			if t.Failed() {
				return
			}
		}
	}
	n.holdMany(t, 2000)
}

func TestRandomSmallTrees(t *testing.T) {
	next := sample.Chances()
	var n counts
	sizes := map[int]int{}
	for range 10000 {
		x := small(1+next(14), next)
		if reach(x) > 4 {
			continue
		}
		n.add(holdListed(t, x))
		sizes[len(x.Kids)]++
		if t.Failed() {
			return
		}
	}
	n.holdMany(t, 300)
	if sizes[2] < 500 || sizes[3] < 200 || sizes[4] < 50 {
		t.Errorf("there are so many trees by their Kids: %v", sizes)
	}
}

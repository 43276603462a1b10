package simple

import (
	"slices"
	"testing"

	"doublet/api"
	"doublet/facts"
	"doublet/match"
	"doublet/sample"
	"doublet/sets"
	"doublet/tree"
)

// holdWords: Of of a tree says the words of up to most bytes that it says, and no others.
func holdWords(t *testing.T, x api.Node, most int) {
	t.Helper()
	got := simpleOf(t, x)
	one, other := sample.Words(x, most), sample.Words(got, most)
	for size := range one {
		for w := range one[size] {
			if !other.Has(w) {
				t.Errorf("%s says %q, and %s does not", brief(x), w, brief(got))
			}
		}
		if len(one[size]) != len(other[size]) {
			t.Errorf("%s says %d words of %d bytes, and %s says %d", brief(x), len(one[size]), size, brief(got), len(other[size]))
		}
	}
}

// All trees of up to three, four and five nodes, the greater ones of fewer leaves and numbers.
func TestP1204AllSmallTrees(t *testing.T) {
	t.Parallel()
	for _, some := range []struct {
		trees [][]api.Node
		most  int
	}{
		{sample.Every(3, []api.Node{none(), e(), hole(), a(), b(), chars("ac")}, [2]int{0, 0}, [2]int{0, -1}, [2]int{1, -1}, [2]int{2, -1}, [2]int{0, 1}, [2]int{0, 2}, [2]int{1, 1}, [2]int{1, 2}, [2]int{2, 2}, [2]int{2, 3}), 5},
		{sample.Every(4, []api.Node{none(), e(), a(), b()}, [2]int{0, 0}, [2]int{1, -1}, [2]int{2, -1}, [2]int{0, 2}), 4},
		{sample.Every(5, []api.Node{e(), a()}, [2]int{0, 1}, [2]int{1, 2}), 4},
	} {
		for _, x := range slices.Concat(some.trees...) {
			holdWords(t, x, some.most)
			if t.Failed() {
				return
			}
		}
	}
}

func TestP1204RandomSmallTrees(t *testing.T) {
	t.Parallel()
	next := sample.Chances()
	for i := range 4000 {
		holdWords(t, sample.Small(1+i%16, next), 4)
		if t.Failed() {
			return
		}
	}
	for _, x := range append(sample.Things(), eachKind()...) {
		for _, y := range sample.Things() {
			holdWords(t, of(6, of(5, x, of(4, y, x))), 3)
			holdWords(t, times(of(4, x, y), 1, 2), 3)
		}
	}
}

// Random trees of many nodes, of all bytes and great numbers, by where words end that both say: random ones, and such as the one or the other says.
func TestP1204RandomTrees(t *testing.T) {
	t.Parallel()
	next := sample.Chances()
	said, changed := 0, 0
	for i := range 6000 {
		x, bytes := sample.Small(1+next(40), next), "abc"
		if i%2 == 0 {
			x, bytes = sample.Grown(1+next(40), next), "aaab\n\x00\x80\xff"
		}
		got := simpleOf(t, x)
		if !tree.Same(x, got) {
			changed++
		}
		for _, from := range []api.Node{x, got} {
			w, ok := spoken(from, 16, next)
			if ok {
				said++
				if !match.Full(x, []byte(w)) || !match.Full(got, []byte(w)) {
					t.Errorf("of %s and %s one does not say %q", brief(x), brief(got), w)
				}
			}
			w += anyWord(next(6), bytes, next)
			one, _ := match.Ends(x, []byte(w), 0)
			other, _ := match.Ends(got, []byte(w), 0)
			if !slices.Equal(one, other) {
				t.Errorf("of %q words of %s end at %v, and of %s at %v", w, brief(x), one, brief(got), other)
			}
		}
		if t.Failed() {
			return
		}
	}
	if said < 5000 || changed < 3000 {
		t.Errorf("%d words were said, %d trees were changed", said, changed)
	}
}

// What can be told of the words of a tree can be told of those of Of of it.
func TestP1204Facts(t *testing.T) {
	next := sample.Chances()
	for i := range 8000 {
		x := sample.Small(1+next(30), next)
		if i%2 == 0 {
			x = sample.Grown(1+next(50), next)
		}
		y := simpleOf(t, x)
		if facts.Shortest(x) != facts.Shortest(y) || facts.Longest(x) != facts.Longest(y) || facts.Bounded(x) != facts.Bounded(y) || facts.First(x) != facts.First(y) || facts.Last(x) != facts.Last(y) {
			t.Errorf("of %s and %s is not told the same", brief(x), brief(y))
		}
		if facts.Hollow(x) != is(y, 1) {
			t.Errorf("%s says no word: %t, and becomes %s", brief(x), facts.Hollow(x), brief(y))
		}
		one, ok := facts.Least(x, 1000)
		other, also := facts.Least(y, 1000)
		if !slices.Equal(one, other) || ok != also {
			t.Errorf("the least words of %s and %s are %.60q and %.60q", brief(x), brief(y), one, other)
		}
		if t.Failed() {
			return
		}
	}
}

// All bytes, in sets that become one.
func TestP1204Sets(t *testing.T) {
	next := sample.Chances()
	for range 300 {
		var l []api.Node
		for range 2 + next(5) {
			l = append(l, ofSet(sets.Of([]byte(anyWord(next(9), "\x00\x01a?@\x7f\x80\xbf\xc0\xff", next))...)))
			if next(2) == 0 {
				l = append(l, of(4, a(), ofSet(sets.Span(byte(next(256)), byte(next(256))))))
			}
		}
		x := of(5, l...)
		y := simpleOf(t, x)
		for n := range 256 {
			for _, w := range [][]byte{{byte(n)}, {'a', byte(n)}, {byte(n), byte(n)}} {
				if match.Full(x, w) != match.Full(y, w) {
					t.Errorf("%s and %s do not both say %q", brief(x), brief(y), w)
				}
			}
		}
	}
}

// Trees of as many nodes as may be: what they say, and that they have no more nodes then.
func TestP1204GreatTrees(t *testing.T) {
	next := sample.Chances()
	for range 60 {
		x := sample.Grown(2000+next(2096), next)
		if next(2) == 0 {
			x = sample.Small(2000+next(2096), next)
		}
		want := modelled(x)
		holdOf(t, x, want)
		for _, n := range []int{0, 1, 7} {
			w := []byte(anyWord(n, "abc", next))
			one, _ := match.Ends(x, w, 0)
			other, _ := match.Ends(want, w, 0)
			if !slices.Equal(one, other) {
				t.Errorf("of %q words end at %v, and of Of at %v", w, one, other)
			}
		}
		if t.Failed() {
			return
		}
	}
}

package facts

import (
	"slices"
	"testing"

	"doublet/api"
	"doublet/sample"
	"doublet/sets"
)

// listed: words, by their lengths; there is a place for each length up to some.
type listed []map[string]struct{}

func (l listed) put(w string) {
	if l[len(w)] == nil {
		l[len(w)] = map[string]struct{}{}
	}
	l[len(w)][w] = struct{}{}
}

func (l listed) putAll(others listed) {
	for _, some := range others {
		for w := range some {
			l.put(w)
		}
	}
}

// behind: words of l, and behind each one of others, where there is a place for them.
func (l listed) behind(others listed) listed {
	made := make(listed, len(l))
	for m, some := range l {
		for n := range len(l) - m {
			for w := range some {
				for v := range others[n] {
					made.put(w + v)
				}
			}
		}
	}
	return made
}

// repeated: from lo to hi words of l, one behind the other.
func (l listed) repeated(lo, hi int) listed {
	made, some := make(listed, len(l)), make(listed, len(l))
	some.put("")
	if hi == -1 {
		// With more of them some would be empty, and could as well be left out.
		hi = lo + len(l)
	}
	for n := 0; n <= hi; n++ {
		if n >= lo {
			made.putAll(some)
		}
		some = some.behind(l)
	}
	return made
}

// list: all words of up to most bytes that a tree says.
func list(x api.Node, most int) listed {
	made := make(listed, most+1)
	var kids []listed
	for _, kid := range x.Kids {
		kids = append(kids, list(kid, most))
	}
	switch x.Kind {
	case 2:
		made.put("")
	case 3:
		for n := range 256 {
			if most > 0 && sets.Has(x.Set, byte(n)) {
				made.put(string([]byte{byte(n)}))
			}
		}
	case 4:
		made.put("")
		for _, kid := range kids {
			made = made.behind(kid)
		}
	case 5:
		for _, kid := range kids {
			made.putAll(kid)
		}
	case 6:
		made = kids[0].repeated(0, -1)
	case 7:
		made = kids[0].repeated(1, -1)
	case 8:
		made = kids[0].repeated(0, 1)
	case 9:
		made = kids[0].repeated(x.Lo, x.Hi)
	}
	return made
}

// reach: a length that no word passes for which nothing is gone through again where it could be left.
// If there are longer words at all, then some of up to twice that length, for going through one more adds no more than reach.
func reach(x api.Node) int {
	n := 0
	for _, kid := range x.Kids {
		if x.Kind == 5 {
			n = max(n, reach(kid))
		} else {
			n += reach(kid)
		}
	}
	switch x.Kind {
	case 3:
		return 1
	case 9:
		return n * max(1, x.Lo, x.Hi)
	}
	return n
}

// answersOf: what is to be told of a tree by the list of its words, and the least one.
func answersOf(x api.Node) (answers, string) {
	n := reach(x)
	l := list(x, 2*n)
	want := ofNone()
	var word string
	for size, some := range l {
		if len(some) == 0 {
			continue
		}
		if want.hollow {
			want.hollow, want.nullable, want.shortest = false, size == 0, size
			for w := range some {
				if word == "" || w < word {
					word = w
				}
			}
		}
		want.longest = size
		for w := range some {
			if size > 0 {
				want.first = sets.Union(want.first, sets.Of(w[0]))
				want.last = sets.Union(want.last, sets.Of(w[size-1]))
			}
		}
	}
	if want.longest > n {
		want.bounded, want.longest = false, -1
	}
	return want, word
}

// holdListed: all calls, by the list of a tree's words.
func holdListed(t *testing.T, x api.Node) answers {
	t.Helper()
	want, word := answersOf(x)
	holdAll(t, x, want, word)
	return want
}

// The model itself, by words that are written out.
func TestModel(t *testing.T) {
	for text, want := range map[string][]string{
		"": {""}, "a": {"a"}, "ab|c": {"c", "ab"}, "a*": {"", "a", "aa", "aaa"}, "a+b?": {"a", "aa", "ab", "aaa", "aab"}, "a{2,}": {"aa", "aaa"}, "a{2}": {"aa"}, "(a|b){1,2}": {"a", "b", "aa", "ab", "ba", "bb"},
		"[^\\x00-\\xff]": nil, "[^\\x00-\\xff]*": {""}, "a[^\\x00-\\xff]": nil, "a{0}": {""}, "(a|){2}": {"", "a", "aa"}, "(ab)*": {"", "ab"}, "(|a)+": {"", "a", "aa", "aaa"},
	} {
		var got []string
		for _, some := range list(read(t, text), 3) {
			var l []string
			for w := range some {
				l = append(l, w)
			}
			slices.Sort(l)
			got = append(got, l...)
		}
		if !slices.Equal(got, want) {
			t.Errorf("%q says %q, want %q", text, got, want)
		}
	}
	for text, want := range map[string]int{"": 0, "a": 1, "ab|c": 2, "a*b": 2, "(ab){3}": 6, "(ab){0}": 2, "(ab){2,}": 4, "(a{2}|b){1,3}": 6} {
		if got := reach(read(t, text)); got != want {
			t.Errorf("reach of %q is %d, want %d", text, got, want)
		}
	}
}

// counts: how many trees were told something.
type counts struct{ all, hollow, nullable, bounded, endless, ofWords int }

func (n *counts) add(x answers) {
	n.all++
	switch {
	case x.hollow:
		n.hollow++
	case x.bounded:
		n.bounded++
	default:
		n.endless++
	}
	if x.nullable {
		n.nullable++
	}
	if x.shortest > 0 {
		n.ofWords++
	}
}

// holdMany: there were enough trees of each sort.
func (n *counts) holdMany(t *testing.T, enough int) {
	t.Helper()
	if min(n.hollow, n.nullable, n.bounded, n.endless, n.ofWords) < enough {
		t.Errorf("of %d trees %d are hollow, %d nullable, %d bounded, %d endless, %d have no empty word", n.all, n.hollow, n.nullable, n.bounded, n.endless, n.ofWords)
	}
}

// All trees of up to three, four and five nodes, the greater ones of fewer leaves and numbers.
func TestAllSmallTrees(t *testing.T) {
	var n counts
	ends := [][2]int{{0, 0}, {0, -1}, {1, -1}, {2, -1}, {0, 1}, {0, 2}, {1, 1}, {1, 2}, {2, 2}}
	for _, l := range [][][]api.Node{
		sample.Every(3, []api.Node{none(), e(), hole(), a(), b(), leaf('a', 'c')}, ends...),
		sample.Every(4, []api.Node{none(), e(), a(), b()}, ends...),
		sample.Every(5, []api.Node{none(), e(), a(), b()}, [2]int{0, 0}, [2]int{2, -1}, [2]int{1, 2}),
	} {
		for _, x := range slices.Concat(l...) {
			n.add(holdListed(t, x))
			if t.Failed() {
				return
			}
		}
	}
	n.holdMany(t, 2000)
}

// small: a tree of n nodes, with few bytes and small numbers.
func small(n int, next func(int) int) api.Node {
	switch {
	case n == 1:
		return []api.Node{none(), hole(), e(), e(), a(), b(), c(), a(), b(), leaf('a', 'b'), leaf('b', 'c')}[next(11)]
	case n == 2 || next(3) == 0:
		x := of(api.Kind(6+next(4)), small(n-1, next))
		if x.Kind == 9 {
			x.Lo = next(3)
			x.Hi = []int{-1, x.Lo, x.Lo + next(3)}[next(3)]
		}
		return x
	}
	var l []api.Node
	for left := n - 1; left > 0; {
		some := 1 + next(max(1, min(left, n-2)))
		l = append(l, small(some, next))
		left -= some
	}
	return of(api.Kind(4+next(2)), l...)
}

func TestRandomSmallTrees(t *testing.T) {
	next := sample.Chances()
	var n counts
	sizes := map[int]int{}
	for range 10000 {
		x := small(1+next(14), next)
		if reach(x) > 4 {
			continue
		}
		n.add(holdListed(t, x))
		sizes[len(x.Kids)]++
		if t.Failed() {
			return
		}
	}
	n.holdMany(t, 300)
	if sizes[2] < 500 || sizes[3] < 200 || sizes[4] < 50 {
		t.Errorf("there are so many trees by their Kids: %v", sizes)
	}
}

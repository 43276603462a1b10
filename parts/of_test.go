package parts

import (
	"slices"
	"testing"

	"doublet/api"
	"doublet/sample"
	"doublet/sets"
)

func TestP1902OfNone(t *testing.T) {
	all := sets.All()
	holdOf(t, nil, all)
	holdOf(t, list(), all)
	holdOf(t, make([]api.Set, 0, 9), all)
	for _, n := range []int{1, 2, 63, 64, 65, 1000} {
		holdOf(t, make([]api.Set, n), all)
		holdOf(t, slices.Repeat(list(all), n), all)
		holdOf(t, slices.Repeat(list(all, api.Set{}), n), all)
	}
}

func TestP1902OfOne(t *testing.T) {
	for b := 1; b < 256; b++ {
		one := sets.Of(byte(b))
		holdOf(t, list(one), sets.Not(one), one)
		holdOf(t, list(sets.Not(one)), sets.Not(one), one)
	}
	first := sets.Of(0)
	holdOf(t, list(first), first, sets.Not(first))
	holdOf(t, list(sets.Not(first)), first, sets.Not(first))
	// Spans: in the middle, from the first byte on, up to the last one, and by the words of a set.
	for _, ends := range [][2]byte{{'a', 'c'}, {1, 254}, {1, 255}, {63, 64}, {127, 128}, {191, 192}, {64, 127}, {128, 191}, {192, 255}, {254, 255}} {
		s := span(ends[0], ends[1])
		holdOf(t, list(s), sets.Not(s), s)
		holdOf(t, list(sets.Not(s)), sets.Not(s), s)
	}
	for _, hi := range []byte{1, 62, 63, 64, 127, 128, 191, 192, 253, 254} {
		holdOf(t, list(span(0, hi)), span(0, hi), span(hi+1, 255))
	}
	holdOf(t, list(set("axz\xff")), others("axz\xff"), set("axz\xff"))
	holdOf(t, list(halves()[0]), sets.Not(halves()[0]), halves()[0])
}

func TestP1902OfTwo(t *testing.T) {
	s := set("bdf")
	// The same one, and its opposite.
	holdOf(t, list(s, s), sets.Not(s), s)
	holdOf(t, list(s, sets.Not(s)), sets.Not(s), s)
	holdOf(t, list(sets.Not(s), s), sets.Not(s), s)
	holdOf(t, list(s, api.Set{}), sets.Not(s), s)
	holdOf(t, list(sets.All(), s), sets.Not(s), s)
	for _, r := range []struct {
		a, b api.Set
		want []api.Set
	}{
		// One inside the other.
		{set("abc"), set("b"), list(others("abc"), set("ac"), set("b"))},
		{set("abc"), set("a"), list(others("abc"), set("a"), set("bc"))},
		{span(0, 99), sets.Of(0), list(sets.Of(0), span(1, 99), span(100, 255))},
		{span(100, 255), sets.Of(255), list(span(0, 99), span(100, 254), sets.Of(255))},
		{others("a"), others("ab"), list(others("ab"), set("a"), set("b"))},
		// Crossing.
		{set("abc"), set("cde"), list(others("abcde"), set("ab"), set("c"), set("de"))},
		{span(0, 127), span(64, 191), list(span(0, 63), span(64, 127), span(128, 191), span(192, 255))},
		{span(0, 64), span(64, 255), list(span(0, 63), sets.Of(64), span(65, 255))},
		{others("a"), others("b"), list(others("ab"), set("a"), set("b"))},
		// Apart.
		{set("a"), set("b"), list(others("ab"), set("a"), set("b"))},
		{set("z"), set("y"), list(others("yz"), set("y"), set("z"))},
		{sets.Of(0), sets.Of(255), list(sets.Of(0), span(1, 254), sets.Of(255))},
		{set("ax"), set("m"), list(others("axm"), set("ax"), set("m"))},
		{span(0, 127), span(128, 255), list(span(0, 127), span(128, 255))},
	} {
		holdOf(t, list(r.a, r.b), r.want...)
		holdOf(t, list(r.b, r.a), r.want...)
		holdOf(t, list(r.a, r.b, r.a), r.want...)
		holdOf(t, list(sets.Not(r.b), api.Set{}, r.a, sets.All(), r.b), r.want...)
	}
}

// The chapter's example, whole.
func TestP1902OfExample(t *testing.T) {
	l := list(span('a', 'c'), span('c', 'e'))
	of, n := Of(l)
	want := by(func(b int) int {
		switch b {
		case 'a', 'b':
			return 1
		case 'c':
			return 2
		case 'd', 'e':
			return 3
		}
		return 0
	})
	holdClasses(t, of, n, want, 4, "Of a to c and c to e")
	holdRight(t, of, 4, true)
	holdLists(t, of, list(others("abcde"), set("ab"), set("c"), set("de")), "\x00acd")
}

func TestP1902OfMany(t *testing.T) {
	each := singles()
	holdOf(t, each, each...)
	holdOf(t, each[1:], each...)
	holdOf(t, each[:255], each...)
	holdOf(t, each[:254], append(singles()[:254], sets.Of(254, 255))...)
	holdOf(t, each[2:], append(list(sets.Of(0, 1)), each[2:]...)...)
	holdOf(t, halves(), each...)
	holdOf(t, halves()[1:], pairs()...)
	// Spans that rise: up to each byte, and from each one on.
	var upto, from []api.Set
	for b := range 256 {
		upto, from = append(upto, span(0, byte(b))), append(from, span(byte(b), 255))
	}
	holdOf(t, upto, each...)
	holdOf(t, from, each...)
	holdOf(t, upto[:100], append(singles()[:100], span(100, 255))...)
	holdOf(t, from[100:], append(list(span(0, 99)), each[100:]...)...)
	// Spans one behind the other, of four bytes each.
	var fours []api.Set
	for lo := 0; lo < 256; lo += 4 {
		fours = append(fours, span(byte(lo), byte(lo+3)))
	}
	holdOf(t, fours, fours...)
	holdOf(t, fours[1:], fours...)
	holdOf(t, slices.Concat(fours, halves()[:2]), each...)
}

// pairs: the sets of two bytes each, one behind the other.
func pairs() []api.Set {
	var l []api.Set
	for b := 0; b < 256; b += 2 {
		l = append(l, span(byte(b), byte(b+1)))
	}
	return l
}

// Bytes that one set alone tells apart, wherever it stands among others.
func TestP1902OfPlaces(t *testing.T) {
	t.Parallel()
	one := set("b")
	for _, n := range []int{1, 2, 7, 8, 9, 31, 32, 33, 62, 63, 64, 65, 66, 127, 128, 129, 191, 192, 193, 255, 256, 257, 511, 512, 513, 999, 1000, 1001, 1100} {
		for _, behind := range []int{0, 1, 63, 64, 65, 1000} {
			for _, other := range list(api.Set{}, sets.All()) {
				l := slices.Repeat(list(other), n+behind)
				l[n-1] = one
				holdOf(t, l, sets.Not(one), one)
			}
			l := slices.Repeat(list(set("bc")), n+behind)
			l[n-1] = one
			want := list(others("bc"), one, set("c"))
			if len(l) == 1 {
				want = list(others("b"), one)
			}
			holdOf(t, l, want...)
		}
	}
	// Two sets, at two places: each tells some.
	places := []int{0, 1, 7, 8, 62, 63, 64, 65, 127, 128, 255, 256, 999}
	for i, x := range places {
		for _, y := range places[i+1:] {
			l := make([]api.Set, 1000)
			l[x], l[y] = set("bc"), set("cd")
			holdOf(t, l, others("bcd"), set("b"), set("c"), set("d"))
			l[x], l[y] = l[y], l[x]
			holdOf(t, l, others("bcd"), set("b"), set("c"), set("d"))
		}
	}
}

// Bytes that stand side by side in two words of a set are told apart, and are together, as others are.
func TestP1902OfEdges(t *testing.T) {
	for _, b := range []byte{63, 127, 191} {
		x, y := sets.Of(b), sets.Of(b+1)
		both := sets.Of(b, b+1)
		holdOf(t, list(x), sets.Not(x), x)
		holdOf(t, list(y), sets.Not(y), y)
		holdOf(t, list(both), sets.Not(both), both)
		holdOf(t, list(x, y), sets.Not(both), x, y)
		holdOf(t, list(both, y), sets.Not(both), x, y)
		holdOf(t, list(span(0, b)), span(0, b), span(b+1, 255))
		holdOf(t, list(span(0, b), span(0, b+1)), span(0, b), y, span(b+2, 255))
	}
	words := list(span(0, 63), span(64, 127), span(128, 191), span(192, 255))
	holdOf(t, words, words...)
	holdOf(t, list(sets.Union(words[0], words[2]), sets.Union(words[0], words[1])), words...)
	// The same place in each word.
	same := set("\x05\x45\x85\xc5")
	holdOf(t, list(same), sets.Not(same), same)
	holdOf(t, list(same, sets.Of(0x45)), sets.Not(same), sets.Of(5, 0x85, 0xc5), sets.Of(0x45))
	holdOf(t, append(singles()[:8], same), slices.Concat(singles()[:5], list(sets.Of(5)), singles()[6:8], list(sets.Less(span(8, 255), same), sets.Of(0x45, 0x85, 0xc5)))...)
}

// Sets in another order, and some of them twice, have the same classes.
func TestP1902OfOrder(t *testing.T) {
	t.Parallel()
	next := sample.Chances()
	for i := range 600 {
		l := anySets([]int{4, 12, 80, 200}[i%4], next)
		want, width := Of(l)
		hold := func(how string, l []api.Set) {
			t.Helper()
			got, n := Of(l)
			holdClasses(t, got, n, want, width, "%s Of(%s)", how, shownSets(l))
		}
		other := slices.Clone(l)
		slices.Reverse(other)
		hold("the other way round", other)
		for at := range other {
			with := next(at + 1)
			other[at], other[with] = other[with], other[at]
		}
		hold("in another order", other)
		for range next(90) {
			if len(l) > 0 {
				other = slices.Insert(other, next(len(other)+1), l[next(len(l))])
			}
		}
		hold("with some twice", other)
		for at := range other {
			if next(2) == 0 {
				other[at] = sets.Not(other[at])
			}
		}
		hold("with some turned about", other)
		if t.Failed() {
			return
		}
	}
}

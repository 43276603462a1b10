package simple

import (
	"slices"
	"testing"

	"doublet/api"
	"doublet/sample"
	"doublet/sets"
)

// eachKind: a simple tree of each of the nine kinds.
func eachKind() []api.Node {
	return []api.Node{none(), e(), a(), of(4, a(), b()), of(5, of(6, a()), b()), of(6, a()), of(7, a()), of(8, a()), times(a(), 2, 3)}
}

func TestP1202CatOfNoneAndOfOne(t *testing.T) {
	holdCat(t, e())
	for _, x := range eachKind() {
		holdCat(t, x, x)
	}
	holdCat(t, ofSet(sets.All()), ofSet(sets.All()))
	holdCat(t, of(5, e(), of(4, a(), b())), of(5, e(), of(4, a(), b())))
}

func TestP1202CatOfMany(t *testing.T) {
	holdCat(t, of(4, a(), b()), a(), b())
	holdCat(t, of(4, b(), a()), b(), a())
	holdCat(t, of(4, a(), a(), a()), a(), a(), a())
	holdCat(t, of(4, of(6, a()), of(6, a())), of(6, a()), of(6, a()))
	holdCat(t, of(4, of(8, a()), a(), chars("ab"), of(7, a())), of(8, a()), a(), chars("ab"), of(7, a()))
	x, y := of(5, e(), of(6, a())), of(5, of(6, a()), e())
	holdCat(t, of(4, x, y, x), x, y, x)
	holdCat(t, of(4, times(of(4, a(), b()), 2, 2), of(6, of(4, a(), b()))), times(of(4, a(), b()), 2, 2), of(6, of(4, a(), b())))
	// All but those of three kinds stay as they are.
	l := []api.Node{a(), of(5, of(6, a()), b()), of(6, a()), of(7, a()), of(8, a()), times(a(), 2, 3)}
	holdCat(t, of(4, l...), l...)
}

func TestP1202CatOfKindCat(t *testing.T) {
	ab, star := of(4, a(), b()), of(6, of(4, b(), c()))
	holdCat(t, of(4, a(), b(), c()), ab, c())
	holdCat(t, of(4, c(), a(), b()), c(), ab)
	holdCat(t, of(4, c(), a(), b(), c()), c(), ab, c())
	holdCat(t, of(4, a(), b(), c(), a(), b()), ab, c(), ab)
	holdCat(t, of(4, a(), b(), a(), b()), ab, ab)
	holdCat(t, of(4, a(), b(), a(), b(), a(), b()), ab, ab, ab)
	holdCat(t, ab, ab)
	holdCat(t, of(4, star, a(), a(), b(), star, of(8, ab)), of(4, star, a()), ab, of(4, star, of(8, ab)))
	holdCat(t, of(4, a(), b(), c(), a(), b(), c()), of(4, a(), b(), c(), a()), of(4, b(), c()))
	// Those deeper within stay.
	holdCat(t, of(4, a(), of(5, ab, e()), b()), a(), of(5, ab, e()), b())
}

func TestP1202CatOfKindEmpty(t *testing.T) {
	ab := of(4, a(), b())
	holdCat(t, e(), e())
	holdCat(t, e(), e(), e())
	holdCat(t, e(), e(), e(), e(), e())
	holdCat(t, a(), e(), a())
	holdCat(t, a(), a(), e())
	holdCat(t, a(), e(), a(), e())
	holdCat(t, a(), e(), e(), a(), e(), e())
	holdCat(t, ab, a(), e(), b())
	holdCat(t, ab, e(), a(), e(), e(), b(), e())
	holdCat(t, ab, ab, e())
	holdCat(t, of(4, a(), b(), a(), b()), e(), ab, e(), ab)
	for _, x := range eachKind() {
		holdCat(t, x, e(), x)
		holdCat(t, x, x, e(), e())
	}
	// What says the empty word, too, is not left out.
	holdCat(t, of(4, of(8, a()), of(6, b())), of(8, a()), e(), of(6, b()))
}

func TestP1202CatOfKindNone(t *testing.T) {
	ab := of(4, a(), b())
	for _, l := range [][]api.Node{
		{none()}, {none(), a()}, {a(), none()}, {a(), none(), b()}, {none(), none()}, {none(), a(), none()},
		{none(), e()}, {e(), none()}, {e(), none(), e()}, {none(), ab}, {ab, none()}, {ab, none(), ab}, {a(), e(), ab, none(), e(), of(6, a())}, {of(6, a()), none(), of(8, b())},
	} {
		holdCat(t, none(), l...)
	}
}

func TestP1202AltOfNoneAndOfOne(t *testing.T) {
	holdAlt(t, none())
	for _, x := range eachKind() {
		holdAlt(t, x, x)
	}
	holdAlt(t, ofSet(sets.All()), ofSet(sets.All()))
	holdAlt(t, of(5, e(), of(4, a(), b())), of(5, e(), of(4, a(), b())))
}

// In which order parts stay: as they come.
func TestP1202AltOfMany(t *testing.T) {
	p, q, r := of(6, a()), of(4, a(), b()), of(8, b())
	holdAlt(t, of(5, p, q), p, q)
	holdAlt(t, of(5, q, p), q, p)
	holdAlt(t, of(5, p, q, r), p, q, r)
	holdAlt(t, of(5, r, q, p), r, q, p)
	holdAlt(t, of(5, e(), p), e(), p)
	holdAlt(t, of(5, q, e(), p), q, e(), p)
	holdAlt(t, of(5, a(), e()), a(), e())
	holdAlt(t, of(5, e(), a()), e(), a())
	l := []api.Node{times(a(), 2, 3), of(8, a()), e(), of(7, a()), of(6, a()), of(4, a(), b()), a()}
	holdAlt(t, of(5, l...), l...)
}

func TestP1202AltOfKindAlt(t *testing.T) {
	p, q, r, s := of(6, a()), of(4, a(), b()), of(8, b()), times(c(), 2, 2)
	holdAlt(t, of(5, p, q, r), of(5, p, q), r)
	holdAlt(t, of(5, r, p, q), r, of(5, p, q))
	holdAlt(t, of(5, r, p, q, s), r, of(5, p, q), s)
	holdAlt(t, of(5, p, q, r, s), of(5, p, q), of(5, r, s))
	holdAlt(t, of(5, s, r, q, p), of(5, s, r, q), p)
	holdAlt(t, of(5, p, q, e(), r, s), of(5, p, q), of(5, e(), r), s)
	holdAlt(t, of(5, p, q), of(5, p, q))
	holdAlt(t, of(5, p, a()), of(5, p, a()))
	// Those deeper within stay.
	x := of(4, of(5, p, q), c())
	holdAlt(t, of(5, x, p, q), x, of(5, p, q))
	holdAlt(t, of(5, of(6, of(5, p, q)), p, q), of(6, of(5, p, q)), of(5, p, q))
}

func TestP1202AltOfKindNone(t *testing.T) {
	p, q := of(6, a()), of(4, a(), b())
	holdAlt(t, none(), none())
	holdAlt(t, none(), none(), none())
	holdAlt(t, none(), none(), none(), none(), none())
	holdAlt(t, of(5, p, q), none(), p, q)
	holdAlt(t, of(5, p, q), p, none(), q)
	holdAlt(t, of(5, p, q), p, q, none())
	holdAlt(t, of(5, p, q), none(), none(), p, none(), q, none(), none())
	holdAlt(t, of(5, p, q), none(), of(5, p, q), none())
	for _, x := range eachKind() {
		holdAlt(t, x, none(), x)
		holdAlt(t, x, x, none())
		holdAlt(t, x, none(), none(), x, none())
	}
}

// The same part twice, three times, next to each other and apart, and out of a part of KindAlt.
func TestP1202AltOfTheSame(t *testing.T) {
	p, q, r := of(6, a()), of(4, a(), b()), of(8, b())
	for _, x := range eachKind() {
		holdAlt(t, x, x, x)
		holdAlt(t, x, x, x, x)
		holdAlt(t, x, x, none(), x)
	}
	holdAlt(t, of(5, p, q), p, p, q)
	holdAlt(t, of(5, p, q), p, q, p)
	holdAlt(t, of(5, p, q), p, q, q)
	holdAlt(t, of(5, p, q), p, q, p, q, p)
	holdAlt(t, of(5, p, q), p, p, p, q, q, q)
	holdAlt(t, of(5, p, q, r), p, q, p, r, q)
	holdAlt(t, of(5, q, p, r), q, p, q, p, p, r, r, q)
	holdAlt(t, of(5, e(), p), e(), e(), p, e())
	holdAlt(t, of(5, p, e()), p, e(), e())
	holdAlt(t, of(5, p, q), p, of(5, p, q))
	holdAlt(t, of(5, q, p), q, of(5, p, q))
	holdAlt(t, of(5, p, q), of(5, p, q), p)
	holdAlt(t, of(5, p, q), of(5, p, q), q, p)
	holdAlt(t, of(5, p, q, r), of(5, p, q), of(5, q, r))
	holdAlt(t, of(5, q, r, p), of(5, q, r), of(5, p, q))
	holdAlt(t, of(5, p, q, r), of(5, p, q), of(5, p, q), of(5, q, p, r))
	// What is the same but for where it lies.
	deep := of(6, of(4, a(), times(of(5, p, q), 2, 3)))
	holdAlt(t, of(5, deep, p), deep, sample.Roomy([]api.Node{deep})[0], p, of(6, of(4, a(), times(of(5, of(6, a()), of(4, a(), b())), 2, 3))))
}

// Parts that differ deep within alone all stay.
func TestP1202AltOfAlmostTheSame(t *testing.T) {
	around := func(x api.Node) api.Node {
		return of(4, of(8, b()), of(6, of(4, a(), times(of(5, e(), of(4, x, c())), 2, 7))))
	}
	var l []api.Node
	for _, x := range []api.Node{
		a(), b(), c(), chars("ab"), chars("ac"), ofSet(sets.All()), ofSet(sets.Not(sets.Of(0))), ofSet(sets.Of(63)), ofSet(sets.Of(64)), ofSet(sets.Of(127)), ofSet(sets.Of(128)), ofSet(sets.Of(255)), ofSet(sets.Of(63, 127)), ofSet(sets.Of(191, 255)),
		of(6, a()), of(7, a()), of(8, a()), of(6, b()), of(6, of(4, a(), b())), of(6, of(4, b(), a())), of(6, of(4, a(), b(), a())), of(6, of(4, a(), of(6, b()))), of(6, of(4, of(6, a()), b())),
		of(5, e(), a()), of(5, a(), e()), of(6, of(5, e(), a())), of(6, of(5, a(), e())), of(5, a(), of(4, a(), b())), of(5, of(4, a(), b()), a()),
		times(a(), 0, 2), times(a(), 0, 3), times(a(), 1, 2), times(a(), 2, 2), times(a(), 2, 3), times(a(), 2, -1), times(a(), 3, -1), times(a(), 2, 1000), times(a(), 1000, 1000), times(a(), 1000, -1), times(times(a(), 2, 3), 3, 4), times(times(a(), 3, 4), 2, 3), times(b(), 2, 3),
	} {
		l = append(l, around(x))
	}
	holdAlt(t, of(5, l...), l...)
	holdAlt(t, of(5, l...), append(l, l...)...)
	for i, x := range l {
		for _, y := range l[:i] {
			holdAlt(t, of(5, x, y), x, y, x)
		}
	}
	// One is the front of the other, or stands within it.
	x := of(4, a(), b(), c())
	holdAlt(t, of(5, of(4, a(), b()), x, of(4, b(), c()), of(6, x)), of(4, a(), b()), x, of(4, b(), c()), of(6, x), x)
}

// All of KindSet are one, with all bytes, where the first one stands.
func TestP1202AltOfKindSet(t *testing.T) {
	p, q, r := of(6, a()), of(4, a(), b()), of(8, b())
	holdAlt(t, a(), a())
	holdAlt(t, chars("ab"), a(), b())
	holdAlt(t, chars("ab"), b(), a())
	holdAlt(t, chars("abc"), a(), b(), c())
	holdAlt(t, chars("abc"), chars("ab"), chars("bc"))
	holdAlt(t, chars("abc"), chars("abc"), b())
	holdAlt(t, chars("abc"), b(), chars("abc"), b(), a())
	holdAlt(t, a(), a(), a(), a())
	holdAlt(t, of(5, chars("ab"), p), a(), p, b())
	holdAlt(t, of(5, chars("ab"), p), a(), b(), p)
	holdAlt(t, of(5, p, chars("ab")), p, a(), b())
	holdAlt(t, of(5, p, chars("ab"), q), p, a(), q, b())
	holdAlt(t, of(5, p, chars("abc"), q, r), p, a(), q, b(), r, c())
	holdAlt(t, of(5, p, chars("abc"), q, r), p, c(), b(), q, r, a())
	holdAlt(t, of(5, e(), chars("ab"), p), e(), a(), b(), p)
	holdAlt(t, of(5, chars("ab"), e()), a(), e(), b())
	// Beside parts that are the same, and such as are left out.
	holdAlt(t, of(5, p, a()), p, a(), p, a())
	holdAlt(t, of(5, a(), p), a(), a(), p)
	holdAlt(t, chars("ab"), none(), a(), none(), b(), none())
	holdAlt(t, a(), none(), a())
	holdAlt(t, a(), a(), none(), a())
	holdAlt(t, chars("ab"), chars("ab"), none(), b(), chars("ab"))
}

// Of KindSet as Kids of parts, too; and of all bytes together.
func TestP1202AltOfKindSetWithin(t *testing.T) {
	p, q := of(6, a()), of(4, a(), b())
	holdAlt(t, of(5, chars("ab"), p), of(5, a(), p), b())
	holdAlt(t, of(5, p, chars("ab")), of(5, p, a()), b())
	holdAlt(t, of(5, chars("ab"), p), b(), of(5, p, a()))
	holdAlt(t, of(5, p, chars("ab"), q), of(5, p, a()), of(5, q, b()))
	holdAlt(t, of(5, chars("abc"), p, q), of(5, a(), p), of(5, b(), q), c())
	holdAlt(t, of(5, q, p, chars("ab")), q, of(5, p, chars("ab")), of(5, b(), q))
	holdAlt(t, of(5, chars("ab"), p), chars("ab"), of(5, p, a()), of(5, b(), p))
	all := ofSet(sets.All())
	var bytes, halves []api.Node
	for n := range 256 {
		bytes = append(bytes, ofSet(sets.Of(byte(n*37))))
	}
	for n := range 16 {
		halves = append(halves, ofSet(sets.Span(byte(n*16), byte(n*16+15))), p)
	}
	holdAlt(t, all, bytes...)
	holdAlt(t, of(5, all, p), halves...)
	holdAlt(t, of(5, p, ofSet(sets.Span(16, 255))), halves[1:]...)
	holdAlt(t, all, a(), ofSet(sets.Not(sets.Of('a'))))
	holdAlt(t, all, all, all, b())
	holdAlt(t, of(5, p, ofSet(sets.Of(0, 63, 64, 127, 128, 191, 192, 255))), p, ofSet(sets.Of(0, 255)), ofSet(sets.Of(63, 64, 127)), ofSet(sets.Of(128, 191, 192)))
}

// What is the same goes, whatever else has its mark.
func TestDistinct(t *testing.T) {
	l := []int{3, 1, 4, 1, 5, 9, 2, 6, 5, 3, 5, 8, 9, 7, 9}
	for marks := range 12 {
		mark := func(x int) uint64 { return uint64(x % (marks + 1)) }
		if got := distinct(l, mark, func(x, y int) bool { return x == y }); !slices.Equal(got, []int{3, 1, 4, 5, 9, 2, 6, 8, 7}) {
			t.Errorf("with %d marks %v are distinct", marks+1, got)
		}
	}
}

// The marks by which the same trees are found: one for the same ones, wherever they lie, and another one for others.
func TestMarks(t *testing.T) {
	met := map[uint64]api.Node{}
	put := func(x api.Node) {
		if t.Failed() {
			return
		}
		n := mark(x)
		if n != mark(sample.Roomy([]api.Node{x})[0]) {
			t.Errorf("%s has two marks", brief(x))
		}
		if other, ok := met[n]; ok {
			t.Errorf("%s and %s have one mark", brief(x), brief(other))
		}
		met[n] = x
	}
	for n := range 256 {
		put(ofSet(sets.Of(byte(n))))
		put(of(6, of(4, a(), ofSet(sets.Not(sets.Of(byte(n)))))))
		for m := range n {
			put(of(7, ofSet(sets.Of(byte(n), byte(m)))))
		}
	}
	for lo := range 1001 {
		put(times(a(), lo, -1))
		put(times(a(), 0, lo))
		put(of(4, times(a(), lo, 1000), times(a(), 1000-lo, 1000)))
	}
	for _, l := range sample.Every(4, []api.Node{none(), e(), hole(), chars("abc"), chars("acd")}, [2]int{0, 0}, [2]int{1, 2}, [2]int{7, -1}) {
		for _, x := range l {
			put(x)
		}
	}
}

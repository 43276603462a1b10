package deriv

import (
	"testing"

	"doublet/api"
	"doublet/sample"
	"doublet/tree"
)

// ahead: an a, and n leaves of b behind it.
func ahead(n int) api.Node { return of(4, append([]api.Node{a()}, again(n, b())...)...) }

// growing: trees by how many nodes stand behind an a in them: each kind of them passes 4096 somewhere, some by one, some by two at a time.
func growing(n int) []api.Node {
	star, plus := of(6, ahead(n)), of(7, ahead(n))
	half := of(6, ahead(n/2))
	return []api.Node{
		star, plus, of(4, star, c()), of(4, of(8, c()), star), of(4, plus, c(), c()), of(8, of(4, star, c())), of(8, of(4, plus, c(), of(8, c()))),
		times(ahead(n), 2, 2), times(ahead(n), 3, 3), times(ahead(n), 2, -1), times(ahead(n), 0, 5), of(4, times(ahead(n), 1, 2), c()),
		of(5, half, of(6, of(4, a(), of(6, ahead(n-n/2))))), of(5, of(4, half, c()), of(6, row(n-n/2, 'a'))), of(4, half, of(8, c()), of(6, row(n/3, 'a'))), of(4, half, of(6, row(n/3, 'a')), of(8, c())),
		// Of two parts that are the same one stands there.
		of(5, of(4, of(8, b()), half, half), of(4, half, half), c()), of(5, of(4, a(), half, half), of(4, leaf('a', 'b'), half, half), of(4, half, half)), of(4, of(8, row(3, 'a')), of(6, row(3, 'a')), star),
	}
}

// As many nodes as may stand behind a byte, one less, and one and more above.
func TestP1303ErrBigAtTheEdge(t *testing.T) {
	t.Parallel()
	var met [9]int
	for kind := range growing(10) {
		at := func(n int) int {
			x := growing(n)[kind]
			if !tree.Right(x) {
				return 5000
			}
			y, _ := modelled(t, x, "a")
			return tree.Size(y)
		}
		// The first n of which there is no room.
		low, high := 1, 4000
		for low < high {
			if n := (low + high) / 2; at(n) > 4096 {
				high = n
			} else {
				low = n + 1
			}
		}
		for n := low - 2; n < low+3; n++ {
			x := growing(n)[kind]
			if !tree.Right(x) {
				t.Fatalf("the tree %d of %d has %d nodes", kind, n, tree.Size(x))
			}
			size := at(n)
			if size > 4092 && size < 4101 {
				met[size-4092]++
			}
			if fits, _ := holdModelled(t, x, "a"); fits != (size <= 4096) {
				t.Errorf("the tree %d of %d has %d nodes behind an a", kind, n, size)
			}
			holdModelled(t, x, "c")
			holdModelled(t, x, "")
		}
	}
	if min(met[3], met[4], met[5], met[6]) < 2 {
		t.Errorf("so often there were 4093 nodes and more: %v", met[1:])
	}
}

// Parts that have too many nodes together, and are the same.
func TestP1303SamePartsHaveRoom(t *testing.T) {
	t.Parallel()
	// Behind an a in it stand some 40 times as many nodes.
	wide := func(n int) []api.Node { return again(n, of(8, of(4, a(), c()))) }
	parts := func(n int) []api.Node {
		var l []api.Node
		for i := range 11 {
			l = append(l, of(4, append([]api.Node{of(8, leaf(byte(100+i), 'b'))}, wide(40)...)...))
		}
		return append(l, of(4, a(), row(n, 'b')), of(4, a(), b()), of(4, of(8, c()), a(), row(n, 'b')))
	}
	x, _ := modelled(t, of(5, parts(2)...), "a")
	most := 2 + 4096 - tree.Size(x)
	for n := most - 2; n < most+3; n++ {
		x := of(5, parts(n)...)
		fits, _ := holdModelled(t, x, "a")
		if fits != (n <= most) {
			t.Errorf("of %d comes %t, and the most is %d", n, fits, most)
		}
		holdModelled(t, x, "b")
		holdModelled(t, x, "d")
	}
	// So it is where they come one after the other.
	l := again(40, of(8, of(4, a(), c())))
	for range 30 {
		l = append([]api.Node{of(5, e(), of(4, b(), c()), of(4, c(), b()))}, l...)
	}
	if fits, more := holdModelled(t, of(4, l...), "a"); !fits || !more {
		t.Errorf("there is room: %t, and something stands there: %t", fits, more)
	}
	// Many small ones, with leaves among them that become one, far from each other.
	l = nil
	for n := range 1000 {
		l = append(l, of(4, a(), times(b(), 2+n%700, -1)))
		if n%100 == 50 {
			l = append(l, of(4, a(), leaf(byte(n/100))), of(4, leaf('a', byte(n/100)), c()))
		}
	}
	holdModelled(t, of(5, l...), "a")
	if fits, more := holdModelled(t, of(6, of(5, l[:650]...)), "a"); !fits || !more {
		t.Errorf("there is room: %t, and something stands there: %t", fits, more)
	}
}

// As soon as the beginning of a word has too many nodes, whatever would come later.
func TestP1303ErrBigOfABeginning(t *testing.T) {
	t.Parallel()
	big := of(6, ahead(2047))
	holdWrong(t, big, "a", api.ErrBig)
	for _, w := range []string{"ab", "aa", "ax", "abb", "aaaa", "a" + many(2047, "b"), "a" + many(5000, "b")} {
		holdWrong(t, big, w, api.ErrBig)
	}
	for _, w := range []string{"b", "ba", "xaaa", "c"} {
		holdWord(t, big, w, none())
	}
	// There is room behind the one byte, and none behind the next one.
	later := of(4, of(8, c()), big)
	holdWord(t, later, "c", big)
	for _, w := range []string{"ca", "cab", "cax", "a", "ax", "ca" + many(3000, "b")} {
		holdWrong(t, later, w, api.ErrBig)
	}
	holdWord(t, later, "cb", none())
	// It fits by one, and then there is less.
	fits := of(6, ahead(2046))
	for _, n := range []int{0, 1, 2, 1000} {
		holdWord(t, fits, "a"+many(n, "b"), of(4, append(again(2046-n, b()), fits)...))
	}
	holdWord(t, fits, "a"+many(2046, "b"), fits)
	holdWord(t, fits, "ax", none())
	// It grows with each byte, and at last too far.
	x := times(of(4, again(12, of(8, a()))...), 2, 500)
	first := 1
	for y, wrong := By(x, 'a'); wrong == api.OK; first++ {
		y, wrong = By(y, 'a')
	}
	if first < 5 || first > 100 {
		t.Errorf("there is no room behind %d bytes", first)
	}
	for _, n := range []int{first - 1, first, first + 1, first + 50} {
		if fits, _ := holdModelled(t, x, many(n, "a")); fits != (n < first) {
			t.Errorf("there is room behind %d bytes: %t", n, fits)
		}
	}
}

// As many nodes as may be, one beside the other.
func TestP1303Wide(t *testing.T) {
	t.Parallel()
	holdWord(t, sample.Beside(4, 4096, a()), "a", sample.Beside(4, 4095, a()))
	holdWord(t, sample.Beside(4, 4096, a()), many(4095, "a"), e())
	holdWord(t, sample.Beside(4, 1000, a()), many(998, "a"), a())
	holdWord(t, sample.Beside(4, 1000, a()), many(999, "a"), e())
	holdWord(t, sample.Beside(4, 1000, a()), many(1000, "a"), none())
	holdWord(t, sample.Beside(5, 4096, a()), "a", e())
	holdWord(t, sample.Beside(4, 4096, e()), "a", none())
	holdWord(t, sample.Beside(5, 4096, e()), "a", none())
	holdWord(t, sample.Beside(5, 4096, none()), "a", none())
	holdWord(t, of(5, again(819, of(4, a(), of(6, b()), c()))...), "ab", of(4, of(6, b()), c()))
	var l, less []api.Node
	for i := range 2047 {
		l, less = append(l, times(a(), 3+i%900, 1000-i/900)), append(less, times(a(), 2+i%900, 999-i/900))
	}
	holdWord(t, of(5, l...), "a", of(5, less...))
	holdWord(t, of(5, l...), "b", none())
	holdWord(t, of(4, l...), "a", of(4, append([]api.Node{less[0]}, l[1:]...)...))
	// All kids say the empty word.
	for _, kid := range []api.Node{of(6, a()), of(8, a()), of(8, leaf('a', 'b')), times(a(), 0, 5)} {
		holdWrong(t, of(4, again(2047, kid)...), "a", api.ErrBig)
		holdWord(t, of(4, again(2047, kid)...), "x", none())
	}
	stars := again(2046, of(6, a()))
	holdWord(t, of(4, append(stars, b())...), "b", e())
	holdWord(t, of(4, append(stars, b())...), "c", none())
	holdWrong(t, of(4, append(stars, b())...), "a", api.ErrBig)
}

// As many nodes as may be, one above the other, that repeat in one another: no call takes long, where what stands behind would have millions of nodes.
func TestP1303DeepEnds(t *testing.T) {
	t.Parallel()
	within := sample.Within
	for name, x := range map[string]api.Node{
		"Rep":      within(4096, a(), func(x api.Node) api.Node { return times(x, 2, 3) }),
		"endless":  within(4096, a(), func(x api.Node) api.Node { return times(x, 2, -1) }),
		"thousand": within(4095, of(6, a()), func(x api.Node) api.Node { return times(x, 0, 1000) }),
		"Star":     within(1366, a(), func(x api.Node) api.Node { return of(6, of(4, x, b())) }),
		"Plus":     within(1024, a(), func(x api.Node) api.Node { return of(7, of(4, of(8, c()), x)) }),
		"both":     within(585, a(), func(x api.Node) api.Node { return of(6, of(5, of(4, x, b()), of(4, c(), a()))) }),
		"wide":     within(585, of(6, a()), func(x api.Node) api.Node { return of(4, of(6, of(4, x, of(8, a()))), of(8, a())) }),
	} {
		for _, w := range []string{"a", "aa", many(100, "a"), many(100, "ba")} {
			got, wrong := Word(x, []byte(w))
			if wrong != api.ErrBig && wrong != api.OK || wrong != api.OK && got.Kind != 0 || tree.Size(got) > 4096 {
				t.Errorf("of %s and %.20q comes %s, %d", name, w, brief(got), wrong)
			}
		}
		holdWrong(t, x, "a", api.ErrBig)
		holdWord(t, x, "\xff", none())
	}
}

// Deep trees of which few nodes stand behind a byte.
func TestP1303Deep(t *testing.T) {
	t.Parallel()
	for _, n := range []int{2, 3, 100, 4096} {
		holdWord(t, sample.Within(n, a(), func(x api.Node) api.Node { return of(6, x) }), "a", of(6, a()))
		holdWord(t, sample.Within(n, a(), func(x api.Node) api.Node { return of(7, x) }), "aa", of(6, a()))
		holdWord(t, sample.Within(n, a(), func(x api.Node) api.Node { return of(8, x) }), "a", e())
		holdWord(t, sample.Within(n, a(), func(x api.Node) api.Node { return times(x, 1, 1) }), "a", e())
	}
	for _, n := range []int{1, 2, 100, 2047} {
		holdWord(t, sample.Nested(4, n, true), "a", plain(t, of(4, append([]api.Node{e()}, again(n, b())...)...)))
		holdWord(t, sample.Nested(5, n, false), "a", e())
	}
	// One choice within the other, with something behind each.
	for _, n := range []int{1, 5, 100, 818} {
		x := sample.Within(n+1, a(), func(x api.Node) api.Node { return of(4, of(5, x, of(6, c())), b()) })
		holdWord(t, x, "a", plain(t, of(4, append([]api.Node{e()}, again(n, b())...)...)))
		holdWord(t, x, "x", none())
		if n < 200 {
			holdModelled(t, x, "b")
			holdModelled(t, x, "c")
		}
	}
	// All of it stays, byte for byte.
	x := sample.Within(200, of(6, a()), func(x api.Node) api.Node { return of(5, of(4, x, b()), of(4, of(6, a()), c())) })
	holdWord(t, x, "aa", x)
	holdModelled(t, x, "c")
	holdModelled(t, x, "b")
}

// Random trees of as many nodes as may be.
func TestP1303GreatTrees(t *testing.T) {
	t.Parallel()
	next := sample.Chances()
	left := 0
	for i := range 120 {
		x := sample.Grown(4096-next(4), next)
		if i%2 == 0 {
			x = sample.Small(4096-next(4), next)
		}
		w, _ := spoken(x, 4, next)
		if w == "" {
			w = anyWord(2, "ab", next)
		}
		if _, more := holdModelled(t, x, w); more {
			left++
		}
		if t.Failed() {
			return
		}
	}
	if left < 20 {
		t.Errorf("behind %d words something stood", left)
	}
}

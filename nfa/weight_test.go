package nfa

import (
	"testing"

	"doublet/api"
	"doublet/sample"
)

// holdWeight: Weight of a tree, and Size of it alone.
func holdWeight(t *testing.T, x api.Node, want int) {
	t.Helper()
	if got := Weight(x); got != want {
		t.Errorf("Weight(%s) = %d, want %d", brief(x), got, want)
	}
	holdSize(t, min(want+2, Top), x)
}

// holdSize: Size of some trees.
func holdSize(t *testing.T, want int, l ...api.Node) {
	t.Helper()
	if got := Size(l); got != want {
		t.Errorf("Size of %s is %d, want %d", several(l), got, want)
	}
}

func TestP1602WeightWrittenOut(t *testing.T) {
	for text, want := range map[string]int{
		"": 0, "a": 1, ".": 1, "[^a-z]": 1, nothing: 1,
		"ab": 2, "abc": 3, "()()": 0, "a()b": 2, "()a": 1, "(ab)(cd)": 4, "()()()()": 0, "ab" + nothing: 3,
		"a|b": 3, "a|b|c": 4, "a|": 2, "|": 1, "|||": 1, "ab|c": 4, "a|a|a": 4, "(a|b)(a|b)": 6, "a|(b|c)": 5,
		"a*": 2, "()*": 1, "(ab)*": 3, "(a*)*": 3, "(a|b)*": 4,
		"a+": 2, "()+": 1, "(ab)+": 3, "(a+)+": 3, "(a|b)+": 4,
		"a?": 2, "()?": 1, "(ab)?": 3, "(a?)?": 3, "(a|b)?": 4,
		// Lo 0, 1 and many; Hi equal to Lo, above Lo, and -1.
		"a{0}": 0, "a{1}": 1, "a{2}": 2, "a{3}": 3, "a{1000}": 1000,
		"a{0,1}": 2, "a{0,2}": 3, "a{0,1000}": 1001, "a{1,2}": 3, "a{1,3}": 4, "a{2,3}": 4, "a{2,4}": 5, "a{7,1000}": 1001, "a{999,1000}": 1001,
		"a{0,}": 2, "a{1,}": 3, "a{2,}": 4, "a{3,}": 5, "a{1000,}": 1002,
		"(ab){0}": 0, "(ab){1}": 2, "(ab){3}": 6, "(ab){0,1}": 3, "(ab){0,3}": 7, "(ab){2,3}": 7, "(ab){2,5}": 11, "(ab){0,}": 3, "(ab){1,}": 5, "(ab){3,}": 9, "(ab){1000,}": 2003,
		// A kid that takes none.
		"(){0}": 0, "(){1}": 0, "(){7}": 0, "(){0,1}": 0, "(){0,1000}": 0, "(){3,5}": 0, "(){0,}": 0, "(){1,}": 0, "(){9,}": 0,
		"(()()()){2,}": 0, "(a{0}){0,3}": 0, "(a{0}b{0}){5,}": 0, "((){3}){2,4}": 0, "(((){5}(){0,}){2,}(){1,2}){0,9}": 0, "((a|b)*{0}){1,1000}": 0,
		// One that takes some, though it says the empty word alone.
		"(|){3}": 3, "()*{2}": 2, "()?{0,2}": 3, "()+{1,}": 3, "(a{0}|){4,5}": 6,
		// Within each other.
		"a{2}{3}": 6, "a{2,}{3}": 12, "a{0,2}{0,3}": 10, "a{3}{0,}": 4, "a{0,}{2,}": 7, "a{2,3}{2,3}": 13, "a{2}{3}{4}{5}": 120, "(a{3}b){2}": 8, "((a{2,}|b){3}c*){0,2}": 41, "(a{1000}){0}": 0,
	} {
		holdWeight(t, read(text), want)
	}
	holdWeight(t, none(), 1)
	holdWeight(t, hole(), 1)
	holdWeight(t, of(4, none(), none()), 2)
	holdWeight(t, of(5, none(), e(), none()), 3)
	holdWeight(t, of(6, none()), 2)
	holdWeight(t, rep(none(), 3, 5), 6)
	holdWeight(t, api.Node{Kind: 4, Kids: []api.Node{e(), {Kind: 2, Kids: []api.Node{}}}}, 0)
}

// Many Kids, and many repeats, by kids of each weight from 0 on.
func TestP1602WeightByKind(t *testing.T) {
	for w := range 12 {
		kid := exactly(w)
		holdWeight(t, kid, w)
		holdWeight(t, of(6, kid), w+1)
		holdWeight(t, of(7, kid), w+1)
		holdWeight(t, of(8, kid), w+1)
		for _, n := range []int{2, 3, 5, 100, 1000} {
			holdWeight(t, of(4, again(n, kid)...), n*w)
			holdWeight(t, of(5, again(n, kid)...), n*w+1)
		}
		for _, lo := range []int{0, 1, 2, 3, 10, 500, 999, 1000} {
			holdWeight(t, rep(kid, lo, lo), lo*w)
			for _, more := range []int{1, 2, 3, 100, 1000} {
				if w == 0 {
					holdWeight(t, rep(kid, lo, min(lo+more, 1000)), 0)
				} else if lo+more <= 1000 {
					holdWeight(t, rep(kid, lo, lo+more), (lo+more)*w+1)
				}
			}
			if w == 0 {
				holdWeight(t, rep(kid, lo, -1), 0)
			} else {
				holdWeight(t, rep(kid, lo, -1), (lo+1)*w+1)
			}
		}
	}
	holdWeight(t, sample.Beside(4, 4096, a()), 4095)
	holdWeight(t, sample.Beside(5, 4096, a()), 4096)
	holdWeight(t, sample.Beside(5, 4096, e()), 1)
	holdWeight(t, sample.Nested(4, 2047, true), 2048)
	holdWeight(t, sample.Nested(5, 2047, false), 4095)
	for kind := api.KindStar; kind <= api.KindOpt; kind++ {
		holdWeight(t, sample.Within(4096, a(), func(x api.Node) api.Node { return of(kind, x) }), 4096)
		holdWeight(t, sample.Within(4096, e(), func(x api.Node) api.Node { return of(kind, x) }), 4095)
	}
}

// Kids that take none, however deep and wide.
func TestP1602WeightOfNothing(t *testing.T) {
	row := sample.Beside(4, 4000, e())
	deep := sample.Within(4000, e(), func(x api.Node) api.Node { return rep(x, 1000, 1000) })
	endlessly := sample.Within(4000, e(), func(x api.Node) api.Node { return rep(x, 7, -1) })
	never := rep(sample.Beside(5, 4000, a()), 0, 0)
	for _, x := range []api.Node{row, deep, endlessly, never, of(4, sample.Beside(4, 2000, e()), rep(a(), 0, 0), sample.Beside(4, 2000, e()))} {
		holdWeight(t, x, 0)
		for _, ends := range [][2]int{{0, 0}, {0, 1}, {0, -1}, {1, -1}, {1000, 1000}, {3, 999}} {
			holdWeight(t, rep(x, ends[0], ends[1]), 0)
			holdWeight(t, rep(rep(x, ends[0], ends[1]), 2, -1), 0)
			holdWeight(t, of(4, rep(x, ends[0], ends[1]), a()), 1)
		}
		holdWeight(t, of(6, x), 1)
		holdWeight(t, rep(of(7, x), 2, -1), 4)
	}
}

// About Top, by sums and by products.
func TestP1602Top(t *testing.T) {
	if Top != 1099511627776 {
		t.Errorf("Top is %d", Top)
	}
	for _, n := range []int{Top / 2, Top - 1000, Top - 3, Top - 2, Top - 1, Top, Top + 1, Top + 2, Top + 1000, 2 * Top, 1000 * Top} {
		x := exactly(n)
		holdWeight(t, x, min(n, Top))
		for _, kind := range []api.Kind{6, 7, 8} {
			holdWeight(t, of(kind, x), min(n+1, Top))
			holdWeight(t, of(kind, of(kind, x)), min(n+2, Top))
		}
		holdWeight(t, of(4, x, a()), min(n+1, Top))
		holdWeight(t, of(4, a(), e(), x, b()), min(n+2, Top))
		holdWeight(t, of(5, e(), x), min(n+1, Top))
		holdWeight(t, of(5, a(), x), min(n+2, Top))
		holdWeight(t, rep(x, 0, 0), 0)
		holdWeight(t, rep(x, 1, 1), min(n, Top))
		holdWeight(t, rep(x, 0, 1), min(n+1, Top))
		holdWeight(t, rep(x, 0, -1), min(n+1, Top))
		holdWeight(t, rep(x, 1, -1), min(2*n+1, Top))
		holdWeight(t, rep(x, 1, 2), min(2*n+1, Top))
		holdWeight(t, of(4, x, rep(x, 0, 0)), min(n, Top))
		for _, other := range []int{1, 2, 999, Top/2 - 1, Top / 2, Top/2 + 1, Top - 1000} {
			if other < n {
				holdWeight(t, of(4, exactly(other), exactly(n-other)), min(n, Top))
				holdWeight(t, of(5, exactly(n-other), exactly(other)), min(n+1, Top))
				holdSize(t, min(n+3, Top), exactly(other), exactly(n-other))
			}
		}
		holdSize(t, min(n+2, Top), x)
		holdSize(t, min(n+3, Top), x, e())
		holdSize(t, min(n+4, Top), a(), x)
		holdSize(t, min(2*n+3, Top), x, x)
		holdSize(t, min(n+200, Top), append(again(198, e()), x)...)
	}
	for lo := 1; lo <= 1000; lo++ {
		// Of all kids Top / lo is the heaviest of which lo stay at Top, or below it.
		for _, n := range []int{Top/lo - 1, Top / lo, Top/lo + 1} {
			holdWeight(t, rep(exactly(n), lo, lo), min(lo*n, Top))
			holdWeight(t, rep(exactly(n), 0, lo), min(lo*n+1, Top))
			holdWeight(t, rep(exactly(n), lo-1, -1), min(lo*n+1, Top))
		}
	}
}

// Products that would pass all ints, and a factor of 0 beside them.
func TestP1602PastAllInts(t *testing.T) {
	huge := sample.Within(41, a(), func(x api.Node) api.Node { return rep(x, 1000, 1000) })
	for _, x := range []api.Node{huge, sample.Within(1300, a(), func(x api.Node) api.Node { return rep(x, 1000, -1) }), sample.Within(1300, a(), func(x api.Node) api.Node { return rep(x, 0, 1000) })} {
		holdWeight(t, x, Top)
		for kind := api.KindStar; kind <= api.KindOpt; kind++ {
			holdWeight(t, of(kind, x), Top)
		}
		holdWeight(t, of(4, x, x, x), Top)
		holdWeight(t, of(5, x, e(), x), Top)
		holdWeight(t, rep(x, 1000, 1000), Top)
		holdWeight(t, rep(x, 1000, -1), Top)
		holdWeight(t, rep(x, 0, -1), Top)
		holdWeight(t, rep(x, 0, 1000), Top)
		holdWeight(t, rep(x, 999, 1000), Top)
		holdWeight(t, rep(x, 0, 0), 0)
		holdWeight(t, rep(rep(x, 0, 0), 1000, -1), 0)
		holdWeight(t, of(4, rep(x, 0, 0), a()), 1)
		holdSize(t, Top, again(1000, x)...)
		holdSize(t, Top, a(), x, a())
		holdSize(t, 6, a(), rep(x, 0, 0), a())
	}
}

func TestP1602Size(t *testing.T) {
	holdSize(t, 1)
	if Size([]api.Node{}) != 1 {
		t.Errorf("Size of an empty list is %d", Size([]api.Node{}))
	}
	for _, n := range []int{1, 2, 3, 63, 64, 65, 66, 1000, 1 << 18} {
		holdSize(t, 1+n, again(n, e())...)
		holdSize(t, 1+2*n, again(n, a())...)
		holdSize(t, 1+n*4, again(n, of(5, a(), b()))...)
	}
	// Weights of all sizes, one behind the other.
	var l []api.Node
	sum := 1
	for w := range 300 {
		l = append(l, exactly(w*w))
		sum += w*w + 1
		holdSize(t, sum, l...)
	}
	// About MaxNfa.
	for n := 65530; n < 65540; n++ {
		holdSize(t, n, exactly(n-2))
		holdSize(t, n, exactly(n-5), e(), a())
		holdSize(t, n, of(6, exactly(n-3)))
		holdSize(t, n, append(again(60, of(8, a())), exactly(n-182))...)
	}
}

// As they truly are, of random trees with many numbers that are great.
func TestP1602RandomTrees(t *testing.T) {
	t.Parallel()
	next := sample.Chances()
	atTop, none := 0, 0
	for i := range 6000 {
		var l []api.Node
		for range 1 + next(4) {
			x := sample.Greatly(2+next(30), next)
			switch i % 4 {
			case 0:
				x = sample.Grown(1+next(30), next)
			case 1:
				x = sample.Small(1+next(40), next)
			}
			l = append(l, x)
			want := stopped(heft(x))
			holdWeight(t, x, want)
			if want == Top {
				atTop++
			}
			if want == 0 {
				none++
			}
		}
		holdSize(t, stopped(sizeOf(l)), l...)
		if t.Failed() {
			return
		}
	}
	if atTop < 1000 || none < 150 {
		t.Errorf("%d trees take as many as Top, %d none", atTop, none)
	}
}

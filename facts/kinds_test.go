package facts

import (
	"testing"

	"doublet/api"
	"doublet/sample"
	"doublet/sets"
)

func TestP1002Alone(t *testing.T) {
	holdAll(t, none(), ofNone(), "")
	holdAll(t, hole(), ofNone(), "")
	holdAll(t, e(), ofEmpty(), "")
	holdAll(t, a(), answers{bounded: true, shortest: 1, longest: 1, first: set("a"), last: set("a")}, "a")
	holdAll(t, of(4, a(), b()), answers{bounded: true, shortest: 2, longest: 2, first: set("a"), last: set("b")}, "ab")
	holdAll(t, of(5, b(), a()), answers{bounded: true, shortest: 1, longest: 1, first: set("ab"), last: set("ab")}, "a")
	holdAll(t, of(6, a()), answers{nullable: true, longest: -1, first: set("a"), last: set("a")}, "")
	holdAll(t, of(7, a()), answers{shortest: 1, longest: -1, first: set("a"), last: set("a")}, "a")
	holdAll(t, of(8, a()), answers{nullable: true, bounded: true, longest: 1, first: set("a"), last: set("a")}, "")
	holdAll(t, rep(a(), 2, 3), answers{bounded: true, shortest: 2, longest: 3, first: set("a"), last: set("a")}, "aa")
	for _, x := range things() {
		holdListed(t, x)
	}
}

// Each thing as the kid of each kind, as the first, a middle and the last one, beside each other thing.
func TestP1002KidOfEachKind(t *testing.T) {
	for _, x := range things() {
		for _, y := range above(x) {
			holdListed(t, y)
		}
		for _, y := range things() {
			if reach(x)+reach(y) > 4 {
				continue
			}
			for _, kind := range []api.Kind{4, 5} {
				holdListed(t, of(kind, x, y))
				holdListed(t, of(kind, x, y, c()))
				holdListed(t, of(kind, c(), x, y))
				holdListed(t, of(kind, y, x, of(8, c())))
				holdListed(t, of(6, of(kind, x, y)))
				holdListed(t, rep(of(kind, y, x), 1, -1))
			}
		}
		if t.Failed() {
			return
		}
	}
}

// What says no word, within each kind.
func TestP1002NoWordWithin(t *testing.T) {
	for _, x := range []api.Node{none(), hole(), of(4, a(), none()), of(4, hole(), of(6, b())), of(5, none(), hole()), of(7, none()), rep(hole(), 1, 1), rep(none(), 1000, -1), of(4, of(6, a()), of(7, b()), rep(none(), 3, 9))} {
		for _, y := range []api.Node{x, of(4, x, x), of(4, x, a()), of(4, a(), x), of(4, a(), x, b()), of(4, of(6, a()), x, of(6, b())), of(5, x, x), of(5, x, none(), x), of(7, x), of(7, of(7, x)), rep(x, 1, 1), rep(x, 1, -1), rep(x, 1, 1000), rep(x, 1000, 1000), rep(x, 2, -1)} {
			holdAll(t, y, ofNone(), "")
		}
		for _, y := range []api.Node{of(6, x), of(8, x), rep(x, 0, 0), rep(x, 0, 1), rep(x, 0, 1000), rep(x, 0, -1), of(5, x, e()), of(5, e(), x), of(5, x, e(), x), of(4, of(6, x), of(8, x)), of(6, of(6, x)), of(7, of(6, x))} {
			holdAll(t, y, ofEmpty(), "")
		}
		for _, y := range []api.Node{of(5, x, a()), of(5, a(), x), of(5, x, a(), x), of(4, of(6, x), a()), of(4, a(), of(8, x), rep(x, 0, -1)), rep(of(5, a(), x), 1, 1)} {
			holdAll(t, y, asked(a()), "a")
		}
		holdAll(t, of(5, of(6, a()), x), asked(of(6, a())), "")
		holdAll(t, of(7, of(5, x, a())), asked(of(7, a())), "a")
	}
}

// What says the empty word alone stays so, however often it is said.
func TestP1002EmptyWithin(t *testing.T) {
	for _, x := range []api.Node{e(), of(4, e(), e()), of(5, e(), e()), of(5, none(), e()), of(6, none()), of(8, hole()), rep(a(), 0, 0), rep(of(6, a()), 0, 0), of(6, e()), of(7, e()), rep(e(), 1000, -1)} {
		holdAll(t, x, ofEmpty(), "")
		for _, y := range above(x) {
			holdAll(t, y, ofEmpty(), "")
		}
		for _, y := range above(of(6, x)) {
			holdAll(t, y, ofEmpty(), "")
		}
		holdAll(t, rep(x, 1000, 1000), ofEmpty(), "")
		holdAll(t, rep(x, 1000, -1), ofEmpty(), "")
		holdAll(t, of(4, x, x, x), ofEmpty(), "")
		holdAll(t, of(5, x, x, x), ofEmpty(), "")
		holdAll(t, of(4, x, a(), x), asked(a()), "a")
	}
}

// Lo and Hi, at their edges and between, of what says no word, the empty one alone, it and others, and others.
func TestP1002Numbers(t *testing.T) {
	for lo := 0; lo <= 1000; lo += 1 + lo/7*3 {
		for _, hi := range []int{-1, 0, 1, 2, lo, lo + 1, 999, 1000} {
			if hi != -1 && (hi < lo || hi > 1000) {
				continue
			}
			if lo == 0 || hi == 0 {
				holdAll(t, rep(none(), lo, hi), ofEmpty(), "")
			} else {
				holdAll(t, rep(none(), lo, hi), ofNone(), "")
			}
			holdAll(t, rep(e(), lo, hi), ofEmpty(), "")
			one := answers{nullable: lo == 0, bounded: hi != -1, shortest: lo, longest: hi, first: set("a"), last: set("a")}
			some := answers{nullable: true, bounded: hi != -1, longest: hi, first: set("a"), last: set("a")}
			two := answers{nullable: lo == 0, bounded: hi != -1, shortest: 2 * lo, longest: max(-1, 2*hi), first: set("a"), last: set("b")}
			star := answers{nullable: true, longest: -1, first: set("a"), last: set("a")}
			if hi == 0 {
				one, some, two, star = ofEmpty(), ofEmpty(), ofEmpty(), ofEmpty()
			}
			holdAll(t, rep(a(), lo, hi), one, many(lo, "a"))
			holdAll(t, rep(of(8, a()), lo, hi), some, "")
			holdAll(t, rep(of(4, a(), b()), lo, hi), two, many(lo, "ab"))
			holdAll(t, rep(of(6, a()), lo, hi), star, "")
		}
	}
}

// What repeats without an end, of kids that repeat so themselves, or not.
func TestP1002Bounded(t *testing.T) {
	holdRows(t,
		row{"a*", 0, -1, "a", "a", ""}, row{"(a*)*", 0, -1, "a", "a", ""}, row{"(a?)+", 0, -1, "a", "a", ""}, row{"(a*){0}", 0, 0, "", "", ""}, row{"(a*){1}", 0, -1, "a", "a", ""}, row{"(a*){0,1}", 0, -1, "a", "a", ""},
		row{"(a{0})*", 0, 0, "", "", ""}, row{"(a{0}b)*", 0, -1, "b", "b", ""}, row{"((a+){0}|b)", 0, 1, "b", "b", ""}, row{"(a+|b)c", 2, -1, "ab", "c", "ac"}, row{"a(b|c)+d", 3, -1, "a", "d", "abd"},
		row{"a+[^\\x00-\\xff]", -1, -1, "", "", ""}, row{"a+[^\\x00-\\xff]|b", 1, 1, "b", "b", "b"}, row{"(a+[^\\x00-\\xff])*b?", 0, 1, "b", "b", ""}, row{"(a[^\\x00-\\xff]){0,}", 0, 0, "", "", ""}, row{"b|(a*[^\\x00-\\xff])?", 0, 1, "b", "b", ""},
		row{"a{3,}", 3, -1, "a", "a", "aaa"}, row{"a{0,}", 0, -1, "a", "a", ""}, row{"(a{2}){3,}", 6, -1, "a", "a", "aaaaaa"}, row{"(a{2,}){3}", 6, -1, "a", "a", "aaaaaa"}, row{"(a{3}|b{1,}){2}", 2, -1, "ab", "ab", "bb"},
		row{"()*", 0, 0, "", "", ""}, row{"()+", 0, 0, "", "", ""}, row{"(|)*", 0, 0, "", "", ""}, row{"(()*|())+(){5,}", 0, 0, "", "", ""}, row{"(|b)*", 0, -1, "b", "b", ""},
	)
	x := none()
	for range 20 {
		if !Bounded(x) || !Bounded(of(4, of(6, a()), x)) || Bounded(of(5, of(6, a()), x)) {
			t.Errorf("Bounded of %s", brief(x))
		}
		x = of(7, of(4, x, of(6, b())))
	}
}

// Kids that say the empty word, ahead of others and behind them, one and many.
func TestP1004FirstAndLast(t *testing.T) {
	holdRows(t,
		row{"a?b", 1, 2, "ab", "b", "b"}, row{"ab?", 1, 2, "a", "ab", "a"}, row{"a?b?c", 1, 3, "abc", "c", "c"}, row{"ab?c?", 1, 3, "a", "abc", "a"}, row{"a?bc?", 1, 3, "ab", "bc", "b"}, row{"a?b?c?", 0, 3, "abc", "abc", ""},
		row{"ab?c", 2, 3, "a", "c", "ac"}, row{"a*b*c*d*", 0, -1, "abcd", "abcd", ""}, row{"(a|)(b|)c(d|)(e|)", 1, 5, "abc", "cde", "c"}, row{"()a()", 1, 1, "a", "a", "a"}, row{"(())(a)(()())", 1, 1, "a", "a", "a"},
		row{"(ab)*", 0, -1, "a", "b", ""}, row{"(ab|c)*d", 1, -1, "acd", "d", "d"}, row{"(a?b)+", 1, -1, "ab", "b", "b"}, row{"(ab?){2,3}", 2, 6, "a", "ab", "aa"}, row{"(a?b?){2}c", 1, 5, "abc", "c", "c"}, row{"x{0}y", 1, 1, "y", "y", "y"}, row{"yx{0}", 1, 1, "y", "y", "y"},
		row{"(ab){0,5}c", 1, 11, "ac", "c", "c"}, row{"c(ab){0,5}", 1, 11, "c", "bc", "c"}, row{"(ab){0}", 0, 0, "", "", ""}, row{"((ab){0}c?)*", 0, -1, "c", "c", ""},
		// One of the Kids says no word: nothing begins, and nothing ends.
		row{"[^\\x00-\\xff]ab", -1, -1, "", "", ""}, row{"a[^\\x00-\\xff]b", -1, -1, "", "", ""}, row{"ab[^\\x00-\\xff]", -1, -1, "", "", ""}, row{"a?b?[^\\x00-\\xff]c?", -1, -1, "", "", ""},
		row{"(ab[^\\x00-\\xff])?c", 1, 1, "c", "c", "c"}, row{"(a[^\\x00-\\xff]|b)c", 2, 2, "b", "c", "bc"}, row{"c([^\\x00-\\xff]a|b)", 2, 2, "c", "b", "cb"}, row{"(a*[^\\x00-\\xff])*", 0, 0, "", "", ""},
	)
	// Of many Kids those ahead of the first one, and behind the last one, that has no empty word.
	for n := 1; n <= 40; n++ {
		l := make([]api.Node, n)
		for place := range n {
			for i := range l {
				l[i] = of(8, leaf(byte(100+i)))
			}
			l[place] = leaf(byte(100 + place))
			x := of(4, append([]api.Node{e()}, l...)...)
			want := answers{bounded: true, shortest: 1, longest: n, first: sets.Span(100, byte(100+place)), last: sets.Span(byte(100+place), byte(99+n))}
			holdAll(t, x, want, string([]byte{byte(100 + place)}))
		}
	}
}

// Sets of one byte, of many, of all; the bytes at the edges.
func TestP1004Sets(t *testing.T) {
	for _, s := range []api.Set{sets.All(), sets.Not(sets.Of(0)), sets.Not(sets.Of(10)), sets.Of(0, 255), sets.Span(128, 255), sets.Span(63, 64), sets.Of(64, 128, 192)} {
		x := api.Node{Kind: api.KindSet, Set: s}
		word := string([]byte{byte(sets.Least(s))})
		holdAll(t, x, answers{bounded: true, shortest: 1, longest: 1, first: s, last: s}, word)
		holdAll(t, of(4, x, a()), answers{bounded: true, shortest: 2, longest: 2, first: s, last: set("a")}, word+"a")
		holdAll(t, of(4, of(8, a()), x, of(6, b())), answers{shortest: 1, longest: -1, first: sets.Union(s, set("a")), last: sets.Union(s, set("b"))}, word)
		holdAll(t, of(6, x), answers{nullable: true, longest: -1, first: s, last: s}, "")
		holdAll(t, rep(x, 3, 7), answers{bounded: true, shortest: 3, longest: 7, first: s, last: s}, many(3, word))
	}
	for n := range 256 {
		x := leaf(byte(n))
		s, rest := sets.Of(byte(n)), sets.Not(sets.Of(byte(n)))
		holdAll(t, x, answers{bounded: true, shortest: 1, longest: 1, first: s, last: s}, string([]byte{byte(n)}))
		holdAnswers(t, of(5, x, api.Node{Kind: 3, Set: rest}), answers{bounded: true, shortest: 1, longest: 1, first: sets.All(), last: sets.All()})
		holdAnswers(t, of(4, x, api.Node{Kind: 3, Set: rest}), answers{bounded: true, shortest: 2, longest: 2, first: s, last: rest})
	}
}

// Trees of many nodes: kinds in a row, and within each other.
func TestP1002ManyNodes(t *testing.T) {
	for _, n := range []int{100, 1000, 4096} {
		holdAll(t, sample.Beside(4, n, a()), answers{bounded: true, shortest: n - 1, longest: n - 1, first: set("a"), last: set("a")}, many(n-1, "a"))
		holdAll(t, sample.Beside(5, n, a()), asked(a()), "a")
		holdAll(t, sample.Beside(4, n, e()), ofEmpty(), "")
		holdAll(t, sample.Beside(5, n, none()), ofNone(), "")
		holdAll(t, sample.Beside(4, n, hole()), ofNone(), "")
		inner := n/2 - 1
		holdAll(t, sample.Nested(4, inner, true), answers{bounded: true, shortest: inner + 1, longest: inner + 1, first: set("a"), last: set("b")}, "a"+many(inner, "b"))
		holdAll(t, sample.Nested(4, inner, false), answers{bounded: true, shortest: inner + 1, longest: inner + 1, first: set("b"), last: set("a")}, many(inner, "b")+"a")
		holdAll(t, sample.Nested(5, inner, true), asked(of(5, a(), b())), "a")
		x := a()
		for i := range n - 1 {
			x = of(api.Kind(7-i%2), x)
		}
		holdAll(t, x, asked(of(6, a())), "")
		for _, y := range []api.Node{none(), e(), a()} {
			x := y
			for range n - 1 {
				x = of(7, x)
			}
			want := asked(of(7, y))
			_, word := answersOf(of(7, y))
			holdAll(t, x, want, word)
		}
	}
}

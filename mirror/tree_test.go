package mirror

import (
	"slices"
	"testing"

	"doublet/api"
	"doublet/sample"
	"doublet/sets"
	"doublet/texts"
)

// The chapter's example, and others that are written out.
func TestP1802Tree(t *testing.T) {
	for text, want := range map[string]string{
		"a(bc)": "(cb)a", "ab": "ba", "abc": "cba", "aab": "baa", "": "", "a": "a", "[a-c]": "[a-c]", texts.Nothing: texts.Nothing,
		// Kids of a choice stay in their order, and so do numbers.
		"a|b": "a|b", "a|b|": "a|b|", "ab|cd|e": "ba|dc|e", "a(b|cd)*e": "e(b|dc)*a", "(a|b)(c|d)": "(c|d)(a|b)", "(|a)b": "b(|a)",
		"a*b": "ba*", "(ab)*": "(ba)*", "(ab)+": "(ba)+", "(ab)?": "(ba)?", "(ab){2,3}c": "c(ba){2,3}", "(ab){2}": "(ba){2}", "(ab){0,1}": "(ba){0,1}", "(ab){5,}": "(ba){5,}", "a{3,4}": "a{3,4}", "a{1,2}b{3,4}c": "cb{3,4}a{1,2}",
		// A row within a row, at whatever place and depth.
		"(ab)(cd)": "(dc)(ba)", "(ab)c": "c(ba)", "a(b(c(de)))": "(((ed)c)b)a", "(a(bc)d)(ef)": "(fe)(d(cb)a)", "((ab)c)(d(ef))": "((fe)d)(c(ba))",
		"(a|bc(de|f))+g": "g(a|(ed|f)cb)+", "((ab)*c){2,}d?": "d?(c(ba)*){2,}", "a((b)c|(d((ef)?g)*)h)": "(cb|h((g(fe)?)*d))a",
		"()a": "a()", "(()|a)b()": "()b(()|a)",
	} {
		holdTurned(t, read(text), read(want))
	}
}

func TestP1802TreeLeaves(t *testing.T) {
	for _, x := range []api.Node{none(), e(), hole(), a(), leaf(0), leaf(255), leaf('a', 'z'), {Kind: 3, Set: sets.All()}} {
		holdTurned(t, x, x)
		holdTurned(t, of(4, x, b()), of(4, b(), x))
		holdTurned(t, of(4, a(), x, b(), c()), of(4, c(), b(), x, a()))
		for _, y := range sample.Above(x) {
			holdTurned(t, y, y)
		}
	}
}

// turnedAbove: nodes above an x, and as they are to be told with a y in its place, which is x, turned.
func turnedAbove(x, y api.Node) [][2]api.Node {
	l := [][2]api.Node{
		{of(4, x, b()), of(4, b(), y)}, {of(4, b(), x), of(4, y, b())}, {of(4, a(), x, c(), e()), of(4, e(), c(), y, a())}, {of(4, x, x), of(4, y, y)},
		{of(5, x, b()), of(5, y, b())}, {of(5, b(), x), of(5, b(), y)}, {of(5, a(), x, none(), x), of(5, a(), y, none(), y)},
	}
	turned := sample.Above(y)
	for i, z := range sample.Above(x) {
		l = append(l, [2]api.Node{z, turned[i]})
	}
	return l
}

// Each kind within each other, four deep, around a row and other things.
func TestP1802TreeKindsWithinEachOther(t *testing.T) {
	for _, x := range [][2]api.Node{{of(4, a(), b()), of(4, b(), a())}, {of(4, a(), b(), e(), c()), of(4, c(), e(), b(), a())}, {a(), a()}, {of(5, b(), a()), of(5, b(), a())}} {
		holdTurned(t, x[0], x[1])
		for _, y := range turnedAbove(x[0], x[1]) {
			holdTurned(t, y[0], y[1])
			for _, z := range turnedAbove(y[0], y[1]) {
				holdTurned(t, z[0], z[1])
				for _, u := range turnedAbove(z[0], z[1]) {
					holdTurned(t, u[0], u[1])
				}
			}
		}
	}
}

// Trees that may not be: only the Kids of each KindCat come in the other order, and nothing is left out.
func TestP1802TreesThatMayNotBe(t *testing.T) {
	s := sets.Of('a', 'x')
	for _, x := range sample.MayNot() {
		holdTree(t, Tree(x), modelTree(x), "Tree(%s)", brief(x))
		holdTree(t, Tree(of(4, x, b())), of(4, b(), modelTree(x)), "Tree(%s, and b)", brief(x))
	}
	for kind := api.Kind(-3); kind < 14; kind++ {
		for _, x := range []api.Node{{}, {Set: s}, {Lo: 3}, {Hi: -1}, {Set: s, Lo: -5, Hi: 7}, {Lo: least, Hi: greatest}} {
			x.Kind = kind
			holdTurned(t, x, x)
			x.Kids = []api.Node{c()}
			holdTurned(t, x, x)
			y := x
			x.Kids, y.Kids = []api.Node{a(), of(4, b(), c()), {}}, []api.Node{a(), of(4, c(), b()), {}}
			if kind == 4 {
				slices.Reverse(y.Kids)
			}
			holdTurned(t, x, y)
			holdTurned(t, of(4, x, a()), of(4, a(), y))
			holdTurned(t, of(kind, of(4, a(), x)), of(kind, of(4, y, a())))
		}
	}
	holdTurned(t, of(4), of(4))
	holdTurned(t, api.Node{Kind: 4, Kids: []api.Node{}}, of(4))
	holdTurned(t, of(4, of(4), of(4, a())), of(4, of(4, a()), of(4)))
	for _, x := range sample.TooGreat() {
		holdTree(t, Tree(x), modelTree(x), "Tree(%s)", brief(x))
	}
}

// Deep trees, as far as promises hold, and wide ones.
func TestP1802TreeDeepAndWide(t *testing.T) {
	t.Parallel()
	const deep = 1<<16 - 1
	holdTurned(t, sample.Nested(4, deep, true), sample.Nested(4, deep, false))
	holdTurned(t, sample.Nested(5, deep, true), sample.Nested(5, deep, true))
	holdTurned(t, sample.Chain(1<<16), sample.Chain(1<<16))
	x, y := a(), a()
	for i := range deep {
		switch i % 4 {
		case 0:
			x, y = of(4, x, b(), c()), of(4, c(), b(), y)
		case 1:
			x, y = of(5, c(), x), of(5, c(), y)
		case 2:
			x, y = of(6, x), of(6, y)
		case 3:
			x, y = rep(x, i%1000, -1), rep(y, i%1000, -1)
		}
	}
	holdTurned(t, x, y)
	l := make([]api.Node, 1<<18)
	for i := range l {
		l[i] = of(api.Kind(4+i%2), leaf(byte(i)), leaf(byte(i>>8), 'x'))
	}
	x, y = Tree(of(4, l...)), Tree(of(5, l...))
	for i := range l {
		want := of(l[i].Kind, l[i].Kids...)
		if i%2 == 0 {
			want = of(4, l[i].Kids[1], l[i].Kids[0])
		}
		holdTree(t, x.Kids[len(l)-1-i], want, "the Kid %d from the end", i)
		holdTree(t, y.Kids[i], want, "the Kid %d", i)
		if t.Failed() {
			return
		}
	}
	holdTurned(t, sample.Beside(4, 1<<20, a()), sample.Beside(4, 1<<20, a()))
}

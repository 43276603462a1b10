package sample

import (
	"iter"
	"math"
	"slices"

	"doublet/api"
	"doublet/sets"
)

// A, B, C, Leaf, Empty, None, Hole: trees of one node; Leaf of some bytes, Hole of a set of none.
func A() api.Node             { return Leaf('a') }
func B() api.Node             { return Leaf('b') }
func C() api.Node             { return Leaf('c') }
func Leaf(l ...byte) api.Node { return api.Node{Kind: api.KindSet, Set: sets.Of(l...)} }
func Empty() api.Node         { return api.Node{Kind: api.KindEmpty} }
func None() api.Node          { return api.Node{Kind: api.KindNone} }
func Hole() api.Node          { return api.Node{Kind: api.KindSet} }

// Of: a node of a kind above trees, whether it may be or not.
func Of(kind api.Kind, l ...api.Node) api.Node { return api.Node{Kind: kind, Kids: l} }

// Rep: a KindRep, whether it may be or not.
func Rep(x api.Node, lo, hi int) api.Node {
	return api.Node{Kind: api.KindRep, Kids: []api.Node{x}, Lo: lo, Hi: hi}
}

// Chain: n nodes, each the one kid of the one ahead, the last one an a.
func Chain(n int) api.Node {
	x := A()
	for i := 1; i < n; i++ {
		x = Of(api.KindStar+api.Kind(i%3), x)
		if i%4 == 0 {
			x.Kind, x.Lo, x.Hi = api.KindRep, i%1000, -1
		}
	}
	return x
}

// Within: a tree of n nodes, if x is one: each but x is made of the one below it.
func Within(n int, x api.Node, above func(x api.Node) api.Node) api.Node {
	for range n - 1 {
		x = above(x)
	}
	return x
}

// Beside: n nodes: all but the first are its Kids, and all alike.
func Beside(kind api.Kind, n int, kid api.Node) api.Node {
	return Of(kind, slices.Repeat([]api.Node{kid}, n-1)...)
}

// Nested: n nodes of a kind within each other, the inner one the first kid, or the last one.
func Nested(kind api.Kind, n int, first bool) api.Node {
	x := A()
	for range n {
		if first {
			x = Of(kind, x, B())
		} else {
			x = Of(kind, B(), x)
		}
	}
	return x
}

// Sized: a KindSet whose class is written in n bytes, from 3 to 261 of them.
func Sized(n int) api.Node {
	var s api.Set
	for i := range (n - 2) / 4 {
		s = sets.Union(s, sets.Of(byte(128+2*i)))
	}
	for i := range (n - 2) % 4 {
		s = sets.Union(s, sets.Of("ace"[i]))
	}
	return api.Node{Kind: api.KindSet, Set: s}
}

// Grown: a tree of n nodes that may be.
func Grown(n int, next func(most int) int) api.Node {
	switch {
	case n == 1:
		return anyLeaf(next)
	case n == 2 || next(3) == 0:
		x := Of(api.KindStar+api.Kind(next(4)), Grown(n-1, next))
		if x.Kind == api.KindRep {
			x.Lo = next(api.MaxRep + 1)
			x.Hi = []int{-1, x.Lo, x.Lo + next(api.MaxRep+1-x.Lo)}[next(3)]
		}
		return x
	}
	var l []api.Node
	for left := n - 1; left > 0; {
		some := 1 + next(left)
		if len(l) == 0 {
			some = 1 + next(left-1)
		}
		l = append(l, Grown(some, next))
		left -= some
	}
	return Of(api.KindCat+api.Kind(next(2)), l...)
}

// Small: a tree of n nodes that may be, with few bytes and small numbers.
func Small(n int, next func(most int) int) api.Node {
	switch {
	case n == 1:
		return []api.Node{None(), Hole(), Empty(), Empty(), A(), B(), C(), A(), B(), Leaf('a', 'b'), Leaf('b', 'c')}[next(11)]
	case n == 2 || next(3) == 0:
		x := Of(api.KindStar+api.Kind(next(4)), Small(n-1, next))
		if x.Kind == api.KindRep {
			x.Lo = next(3)
			x.Hi = []int{-1, x.Lo, x.Lo + next(3)}[next(3)]
		}
		return x
	}
	var l []api.Node
	for left := n - 1; left > 0; {
		some := 1 + next(max(1, min(left, n-2)))
		l = append(l, Small(some, next))
		left -= some
	}
	return Of(api.KindCat+api.Kind(next(2)), l...)
}

// Greatly: a tree of some n nodes that says words, with many numbers that are great.
func Greatly(n int, next func(most int) int) api.Node {
	if n <= 1 {
		return []api.Node{A(), B(), Leaf('a', 'z'), Empty()}[next(4)]
	}
	switch next(5) {
	case 0:
		return Of(api.KindCat, Greatly(n/2, next), Greatly(n-1-n/2, next))
	case 1:
		return Of(api.KindAlt, Greatly(n/2, next), Greatly(n-1-n/2, next))
	case 2:
		lo := next(api.MaxRep + 1)
		return Rep(Greatly(n-1, next), lo, -1)
	}
	lo := 1 + next(api.MaxRep)
	return Rep(Greatly(n-1, next), lo, lo+next(api.MaxRep+1-lo))
}

// Exactly: a tree of few nodes that says one word, of n times an a.
func Exactly(n int) api.Node {
	if n <= api.MaxRep {
		return Rep(A(), n, n)
	}
	left := n % api.MaxRep
	return Of(api.KindCat, Rep(Exactly(n/api.MaxRep), api.MaxRep, api.MaxRep), Rep(A(), left, left))
}

// Every: all trees of up to so many nodes, by how many there are: those of one node are leaves, and a KindRep has one of some ends. They share what is below their first nodes.
func Every(most int, leaves []api.Node, ends ...[2]int) [][]api.Node {
	// rows: all lists of trees, by how many nodes there are in all.
	trees, rows := [][]api.Node{nil}, [][][]api.Node{{nil}}
	for n := 1; n <= most; n++ {
		var l []api.Node
		if n == 1 {
			l = slices.Clone(leaves)
		}
		for _, kids := range rows[n-1] {
			l = append(l, everyAbove(kids, ends)...)
		}
		trees = append(trees, l)
		var made [][]api.Node
		for first := 1; first <= n; first++ {
			for _, x := range trees[first] {
				for _, others := range rows[n-first] {
					made = append(made, append([]api.Node{x}, others...))
				}
			}
		}
		rows = append(rows, made)
	}
	return trees
}

// everyAbove: all nodes that may stand above a list of trees.
func everyAbove(kids []api.Node, ends [][2]int) []api.Node {
	switch len(kids) {
	case 0:
		return nil
	case 1:
		l := []api.Node{Of(api.KindStar, kids...), Of(api.KindPlus, kids...), Of(api.KindOpt, kids...)}
		for _, end := range ends {
			l = append(l, Rep(kids[0], end[0], end[1]))
		}
		return l
	}
	return []api.Node{Of(api.KindCat, kids...), Of(api.KindAlt, kids...)}
}

// Group: trees, and the words that are asked of them: all of some bytes, of up to a length.
type Group struct {
	Trees []api.Node
	Bytes string
	Most  int
}

// SmallTrees: all trees of up to three, four and five nodes, the greater ones of fewer leaves and numbers.
func SmallTrees() []Group {
	ends := [][2]int{{0, 0}, {0, -1}, {1, -1}, {2, -1}, {0, 1}, {0, 2}, {1, 1}, {1, 2}, {2, 2}, {2, 3}}
	all := func(trees [][]api.Node) []api.Node { return slices.Concat(trees...) }
	return []Group{
		{all(Every(3, []api.Node{None(), Empty(), Hole(), A(), B(), Leaf('a', 'c')}, ends...)), "abcx", 3},
		{all(Every(3, []api.Node{Empty(), A(), Leaf('a', 'b')}, ends...)), "ab", 6},
		{all(Every(4, []api.Node{None(), Empty(), A(), B()}, ends...)), "ab", 3},
		{all(Every(5, []api.Node{Empty(), A(), B()}, [2]int{2, -1}, [2]int{1, 2})), "ab", 2},
	}
}

// Above: nodes of one kid, each kind and each sort of numbers.
func Above(x api.Node) []api.Node {
	return []api.Node{
		Of(api.KindStar, x), Of(api.KindPlus, x), Of(api.KindOpt, x), Rep(x, 0, 0), Rep(x, 0, 1), Rep(x, 0, 2), Rep(x, 0, -1),
		Rep(x, 1, 1), Rep(x, 1, 2), Rep(x, 1, -1), Rep(x, 2, 2), Rep(x, 2, 3), Rep(x, 2, -1), Rep(x, 3, 3),
	}
}

// Things: each kind of tree, alone and above others: such as say no word, the empty one alone, it and others, others alone, few or without an end.
func Things() []api.Node {
	l := []api.Node{None(), Empty(), Hole(), A(), B(), Leaf('a', 'b')}
	for _, x := range []api.Node{None(), Empty(), A(), Of(api.KindAlt, Empty(), B())} {
		l = append(l, Above(x)...)
	}
	for _, pair := range [][2]api.Node{{A(), B()}, {Empty(), Empty()}, {A(), Hole()}} {
		l = append(l, Of(api.KindCat, pair[:]...))
	}
	for _, pair := range [][2]api.Node{{A(), B()}, {Empty(), Empty()}, {None(), Hole()}, {B(), Empty()}, {None(), A()}, {Of(api.KindStar, A()), B()}} {
		l = append(l, Of(api.KindAlt, pair[:]...))
	}
	return l
}

// Around: trees that may be, with nodes of each kind at many places.
func Around() []api.Node {
	return []api.Node{
		A(), Of(api.KindCat, A(), B()), Of(api.KindAlt, Empty(), None(), A()), Of(api.KindStar, Of(api.KindPlus, Of(api.KindOpt, Rep(A(), 2, 3)))),
		Of(api.KindCat, Of(api.KindStar, A()), Of(api.KindAlt, Of(api.KindCat, A(), B()), Empty()), C()),
		Rep(A(), 0, 0), Of(api.KindCat, None(), A()), Of(api.KindAlt, Empty(), A()), Of(api.KindStar, A()),
		Chain(30), Beside(api.KindCat, 30, A()), Nested(api.KindAlt, 10, true), Nested(api.KindCat, 10, false),
	}
}

// anyLeaf: a tree of one node that may be.
func anyLeaf(next func(most int) int) api.Node {
	switch next(8) {
	case 0:
		return None()
	case 1:
		return Empty()
	case 2:
		return A()
	case 3:
		return B()
	}
	s := []api.Set{{}, sets.Not(sets.Of(10)), sets.Of(byte(next(256))), sets.Span(byte(next(99)), byte(99+next(157)))}[next(4)]
	return api.Node{Kind: api.KindSet, Set: s}
}

// MayNot: trees that may not be, for what their first node is.
func MayNot() []api.Node {
	const kinds = api.KindRep + 1
	s := sets.Of('a')
	l := []api.Node{
		{}, Of(kinds), Of(-1), Of(math.MinInt), Of(math.MaxInt), Of(0, A()), Of(kinds, A(), B()), Of(kinds+1, A()), {Set: s},
		{Kind: api.KindSet, Set: s, Kids: []api.Node{B()}}, {Kind: api.KindNone, Set: sets.Of(0)}, {Kind: api.KindEmpty, Set: sets.Of(255)},
		{Kind: api.KindNone, Lo: 1}, {Kind: api.KindNone, Hi: -1}, {Kind: api.KindEmpty, Hi: 1}, {Kind: api.KindEmpty, Hi: -1}, {Kind: api.KindSet, Set: s, Lo: 1}, {Kind: api.KindSet, Hi: -1},
		Of(api.KindCat), Of(api.KindAlt), Of(api.KindCat, A()), Of(api.KindAlt, A()), Of(api.KindStar, A(), A(), A()),
	}
	for kind := api.KindNone; kind <= api.KindSet; kind++ {
		l = append(l, Of(kind, A()), Of(kind, A(), B()))
	}
	for kind := api.KindStar; kind <= api.KindRep; kind++ {
		l = append(l, Of(kind), Of(kind, A(), B()))
	}
	for kind := api.KindCat; kind <= api.KindRep; kind++ {
		kids := []api.Node{A(), B()}
		if kind > api.KindAlt {
			kids = kids[:1]
		}
		l = append(l, api.Node{Kind: kind, Set: s, Kids: kids})
		if kind < api.KindRep {
			l = append(l, api.Node{Kind: kind, Kids: kids, Lo: 1}, api.Node{Kind: kind, Kids: kids, Hi: -1}, api.Node{Kind: kind, Kids: kids, Lo: 2, Hi: 2})
		}
	}
	for _, ends := range [][2]int{{3, 2}, {1, 0}, {0, -2}, {5, -2}, {-1, -1}, {-1, 0}, {-1, 5}, {-2, -2}, {1001, -1}, {1001, 1001}, {0, 1001}, {1000, 1001}, {1000, 999}, {math.MinInt, -1}, {math.MaxInt, -1}, {0, math.MaxInt}, {0, math.MinInt}, {math.MaxInt, math.MaxInt}, {math.MinInt, math.MinInt}} {
		l = append(l, Rep(A(), ends[0], ends[1]))
	}
	return l
}

// Faults goes through trees that may not be: for what their first node is, and for what a node at whatever place of others is.
func Faults() iter.Seq[api.Node] {
	return func(yield func(api.Node) bool) {
		great := []api.Node{Beside(api.KindAlt, 3000, A()), Beside(api.KindCat, 3000, Empty()), Chain(3000)}
		for _, x := range MayNot() {
			l := []api.Node{x}
			for _, y := range Around() {
				for place := range size(y) {
					l = append(l, With(y, place, x))
				}
			}
			for _, y := range great {
				l = append(l, With(y, 1, x), With(y, 1000, x), With(y, 2999, x))
			}
			for _, y := range l {
				if !yield(y) {
					return
				}
			}
		}
	}
}

// size: how many nodes a tree has.
func size(x api.Node) int {
	n := 1
	for _, kid := range x.Kids {
		n += size(kid)
	}
	return n
}

// TooGreat: trees that may not be for how many nodes they have: one more than may be, some more, and very many.
func TooGreat() []api.Node {
	l := []api.Node{Chain(4097), Chain(1 << 16), Nested(api.KindCat, 2048, true), Nested(api.KindAlt, 2048, false), Nested(api.KindCat, 1<<15, true), Nested(api.KindAlt, 1<<15, false), Rep(Beside(api.KindAlt, 4096, A()), 0, 0)}
	for _, kid := range []api.Node{A(), Empty(), None(), Hole()} {
		for _, kind := range []api.Kind{api.KindCat, api.KindAlt} {
			l = append(l, Beside(kind, 4097, kid), Beside(kind, 1<<18, kid))
		}
	}
	for kind := api.KindStar; kind <= api.KindOpt; kind++ {
		l = append(l, Within(4097, A(), func(x api.Node) api.Node { return Of(kind, x) }))
	}
	return append(l, Within(4097, A(), func(x api.Node) api.Node { return Rep(x, 2, 3) }))
}

// Spoilt: a tree with one thing of its first node made another one, or none: it may be then, or not.
func Spoilt(x api.Node, next func(most int) int) api.Node {
	numbers := []int{math.MinInt, -api.MaxRep - 1, -2, -1, 0, 1, 2, 7, api.MaxRep, api.MaxRep + 1, 1 << 40, math.MaxInt}
	number := func() int { return numbers[next(len(numbers))] }
	switch next(12) {
	case 0:
		x.Kind = api.Kind(number())
	case 1:
		x.Set = sets.Of(byte(next(256)))
	case 2:
		x.Lo, x.Hi = number(), number()
	case 3:
		x.Kids = []api.Node{}
	}
	return x
}

// Wild: a tree of whatever there is: it may be, or not.
func Wild(next func(most int) int) api.Node {
	var made func(deep int) api.Node
	made = func(deep int) api.Node {
		x := Grown(1+next(6), next)
		if next(4) == 0 {
			x = Spoilt(x, next)
		}
		if deep > 0 && len(x.Kids) > 0 {
			x.Kids[next(len(x.Kids))] = made(deep - 1)
		}
		return x
	}
	return made(next(4))
}

// SomeTrees: fewer than most random trees, with small numbers but for a few.
func SomeTrees(most int, next func(most int) int) []api.Node {
	var l []api.Node
	for range next(most) {
		x := Small(1+next(25), next)
		if next(4) == 0 {
			x = Grown(1+next(5), next)
		}
		l = append(l, x)
	}
	return l
}

// With: a tree with the node at a place, counted from the top and the left, made another one.
func With(x api.Node, place int, y api.Node) api.Node {
	var made func(x api.Node) api.Node
	made = func(x api.Node) api.Node {
		here := place == 0
		place--
		l := make([]api.Node, len(x.Kids))
		for i, kid := range x.Kids {
			l[i] = made(kid)
		}
		x.Kids = l
		if here {
			return y
		}
		return x
	}
	return made(x)
}

// Filled: a tree with KindSet of the empty set for KindNone.
func Filled(x api.Node) api.Node {
	if x.Kind == api.KindNone {
		return Hole()
	}
	var l []api.Node
	for _, kid := range x.Kids {
		l = append(l, Filled(kid))
	}
	x.Kids = l
	return x
}

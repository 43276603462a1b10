package tree

import (
	"bytes"
	"math"
	"slices"
	"strconv"
	"strings"
	"testing"

	"doublet/api"
	"doublet/sample"
	"doublet/sets"
)

const (
	greatest = math.MaxInt
	least    = math.MinInt
	deep     = 1 << 16
	wide     = 1 << 18
)

func all() api.Set        { return api.Set{^uint64(0), ^uint64(0), ^uint64(0), ^uint64(0)} }
func just(c byte) api.Set { return sets.Of(c) }

// Short names for what most trees are made of.
var (
	a, b    = sample.A, sample.B
	of, rep = sample.Of, sample.Rep
)

// dump writes all of a tree, and each node in a way of its own, so that two trees are the same just if their dumps are.
func dump(l ...api.Node) string { return string(dumped(nil, l)) }

func dumped(text []byte, l []api.Node) []byte {
	for _, x := range l {
		text = strconv.AppendInt(append(text, '<'), int64(x.Kind), 10)
		for _, word := range x.Set {
			text = strconv.AppendUint(append(text, ' '), word, 16)
		}
		text = strconv.AppendInt(append(text, ' '), int64(x.Lo), 10)
		text = strconv.AppendInt(append(text, ' '), int64(x.Hi), 10)
		text = append(dumped(text, x.Kids), '>')
	}
	return text
}

func hold(t *testing.T, name string, got, want api.Node) {
	t.Helper()
	if dump(got) != dump(want) {
		t.Errorf("%s = %.300s, want %.300s", name, dump(got), dump(want))
	}
}

// bare: the same tree, whose nodes without Kids have nil ones (or, if empty is asked for, some of length 0).
func bare(x api.Node, empty bool) api.Node {
	var l []api.Node
	if empty {
		l = []api.Node{}
	}
	for _, kid := range x.Kids {
		l = append(l, bare(kid, empty))
	}
	x.Kids = l
	return x
}

// scribble writes over all that lies in lists, and behind them, at all depths.
func scribble(l []api.Node) {
	l = l[:cap(l)]
	for i := range l {
		scribble(l[i].Kids)
		l[i] = api.Node{Kind: 77, Set: all(), Lo: 7, Hi: 7}
	}
}

// with: a tree with the node at a place, counted from the top and the left, made another one.
func with(x api.Node, place int, change func(api.Node) api.Node) api.Node {
	var made func(y api.Node) api.Node
	made = func(y api.Node) api.Node {
		here := place == 0
		place--
		l := make([]api.Node, len(y.Kids))
		for i, kid := range y.Kids {
			l[i] = made(kid)
		}
		y.Kids = l
		if here {
			return change(y)
		}
		return y
	}
	return made(x)
}

func instead(y api.Node) func(api.Node) api.Node {
	return func(api.Node) api.Node { return y }
}

// nodes: how many there are.
func nodes(x api.Node) int { return strings.Count(dump(x), "<") }

// beside: n nodes: all but the first are its Kids.
func beside(kind api.Kind, n int) api.Node {
	l := make([]api.Node, n-1)
	for i := range l {
		l[i] = api.Node{Kind: 3, Set: just(byte(i))}
	}
	return of(kind, l...)
}

// slope: a tree of n levels, of two Kids each; the deep one is the left one, or the right one.
func slope(n int, left bool) api.Node {
	x := a()
	for i := 1; i < n; i++ {
		other := api.Node{Kind: 3, Set: just(byte(i))}
		if left {
			x = of(4, x, other)
		} else {
			x = of(5, other, x)
		}
	}
	return x
}

// twin: a tree of n levels, in which both Kids of a node are one and the same memory.
func twin(n int) api.Node {
	x := a()
	for range n - 1 {
		x = of(4, x, x)
	}
	return x
}

// may: trees that may be, all different.
func may() []api.Node {
	l := []api.Node{
		of(1), of(2), {Kind: 3}, a(), b(), {Kind: 3, Set: all()}, {Kind: 3, Set: api.Set{0, 0, 0, 1 << 63}},
		of(4, a(), b()), of(4, b(), a()), of(4, a(), a()), of(4, a(), b(), a()), of(4, a(), b(), a(), b()),
		of(5, a(), b()), of(5, of(1), of(2)), of(5, a(), of(4, b(), b())), of(5, of(5, a(), b()), a()), of(5, a(), of(5, b(), a())),
		of(6, a()), of(7, a()), of(8, a()), of(6, of(6, a())), of(7, of(2)), of(8, of(1)),
		rep(a(), 0, 0), rep(a(), 0, -1), rep(a(), 2, 3), rep(a(), 2, 4), rep(a(), 1000, 1000), rep(rep(b(), 1, 1), 1, 1),
		of(4, of(6, a()), of(5, a(), of(2)), rep(a(), 2, -1)), beside(4, 20), beside(5, 20), sample.Chain(12), slope(6, true), slope(6, false),
	}
	next := sample.Chances()
	for n := 6; n < 40; n++ {
		l = append(l, sample.Grown(n, next))
	}
	return l
}

// both: trees that may be, and ones that may not, as they are and far within others.
func both() []api.Node {
	l := append(may(), sample.MayNot()...)
	for _, x := range sample.MayNot() {
		l = append(l, of(4, a(), of(6, x), b()), of(0, x, of(3, x)))
	}
	return l
}

// right: may a node be, kind by kind, with right Kids?
func right(x api.Node) bool {
	n, noSet, noEnds := len(x.Kids), x.Set == api.Set{}, x.Lo == 0 && x.Hi == 0
	switch x.Kind {
	case 1, 2:
		return n == 0 && noSet && noEnds
	case 3:
		return n == 0 && noEnds
	case 4, 5:
		return n >= 2 && noSet && noEnds
	case 6, 7, 8:
		return n == 1 && noSet && noEnds
	case 9:
		if x.Hi == -1 {
			return n == 1 && noSet && 0 <= x.Lo && x.Lo <= 1000
		}
		return n == 1 && noSet && 0 <= x.Lo && x.Lo <= x.Hi && x.Hi <= 1000
	}
	return false
}

// holdRight tells where Right is not what is wanted.
func holdRight(t *testing.T, x api.Node, want bool) {
	t.Helper()
	if got := Right(x); got != want {
		t.Errorf("Right(%.300s) = %t", dump(x), got)
	}
}

// behind writes lists with the room behind them, at all depths.
func behind(l []api.Node) string {
	text := dump(l[:cap(l)]...)
	for _, x := range l {
		text += "\n" + behind(x.Kids)
	}
	return text
}

func TestP601ArgumentsStay(t *testing.T) {
	for _, x := range both() {
		l := sample.Roomy([]api.Node{x, a(), x})
		kept := behind(l)
		Right(l[0])
		Size(l[0])
		Same(l[0], l[2])
		Copy(l[0])
		Cat(l...)
		Cat(l[:1]...)
		Alt(l...)
		Alt(l[:1]...)
		Star(l[0])
		Plus(l[0])
		Opt(l[0])
		Rep(l[0], 1, 2)
		Leaves(l[0])
		if got := behind(l); got != kept {
			t.Fatalf("%.300s became %.300s", kept, got)
		}
	}
	word := append(make([]byte, 0, 8), "abc"...)
	Word(word...)
	if got := word[:8]; !bytes.Equal(got, []byte("abc\x00\x00\x00\x00\x00")) {
		t.Errorf("Word changed its bytes: %q", got)
	}
}

// holdApart: what a call answers shares nothing with its trees, nor with what it answers again.
func holdApart(t *testing.T, name string, l []api.Node, call func(l []api.Node) api.Node) {
	t.Helper()
	l = sample.Roomy(l)
	kept := behind(l)
	first, second := call(l), call(l)
	want := behind([]api.Node{second})
	if got := behind([]api.Node{first}); got != want {
		t.Errorf("%s of %.300s is told in two ways: %.300s and %.300s", name, kept, got, want)
	}
	scribble(first.Kids)
	if behind(l) != kept {
		t.Errorf("%s shares what it answers with its trees: %.300s", name, kept)
	}
	if behind([]api.Node{second}) != want {
		t.Errorf("%s shares what it answers with another answer: %.300s", name, want)
	}
	scribble(l)
	if behind([]api.Node{second}) != want {
		t.Errorf("%s keeps its trees: %.300s", name, kept)
	}
}

func TestP601NewMemory(t *testing.T) {
	for _, x := range both() {
		one := []api.Node{x}
		holdApart(t, "Copy", one, func(l []api.Node) api.Node { return Copy(l[0]) })
		holdApart(t, "Star", one, func(l []api.Node) api.Node { return Star(l[0]) })
		holdApart(t, "Plus", one, func(l []api.Node) api.Node { return Plus(l[0]) })
		holdApart(t, "Opt", one, func(l []api.Node) api.Node { return Opt(l[0]) })
		holdApart(t, "Rep", one, func(l []api.Node) api.Node { return Rep(l[0], 3, -1) })
		for _, l := range [][]api.Node{nil, one, {x, a()}, {a(), x, x}, {x, x, x, x, x, x, x}} {
			holdApart(t, "Cat", l, func(l []api.Node) api.Node { return Cat(l...) })
			holdApart(t, "Alt", l, func(l []api.Node) api.Node { return Alt(l...) })
		}
	}
	// One tree in several places: these share nothing with each other either.
	for _, x := range []api.Node{Cat(twin(5), twin(5)), Copy(twin(6)), Star(twin(6)), Alt(slices.Repeat([]api.Node{sample.Chain(5)}, 4)...)} {
		want := dump(x.Kids[len(x.Kids)-1])
		if len(x.Kids) > 1 {
			scribble(x.Kids[0].Kids)
		} else {
			want = dump(x.Kids[0].Kids[1])
			scribble(x.Kids[0].Kids[0].Kids)
			x = x.Kids[0]
		}
		if got := dump(x.Kids[len(x.Kids)-1]); got != want {
			t.Errorf("a kid became %.300s, as another one did; it was %.300s", got, want)
		}
	}
	word := []byte("abc")
	first, second := Word(word...), Word(word...)
	clear(word)
	scribble(first.Kids)
	hold(t, "Word, behind what was done to its bytes and to another answer,", second, of(4, api.Node{Kind: 3, Set: just('a')}, api.Node{Kind: 3, Set: just('b')}, api.Node{Kind: 3, Set: just('c')}))
}

func TestP601LeavesAreNewMemory(t *testing.T) {
	for _, x := range both() {
		l := sample.Roomy([]api.Node{x})
		kept := behind(l)
		first, second := Leaves(l[0]), Leaves(l[0])
		want := slices.Clone(second)
		clear(first[:cap(first)])
		if behind(l) != kept || !slices.Equal(second, want) {
			t.Errorf("Leaves shares what it answers: %.300s", kept)
		}
		scribble(l)
		if !slices.Equal(second, want) {
			t.Errorf("Leaves keeps its tree: %.300s", kept)
		}
	}
}

func TestP602Right(t *testing.T) {
	for _, x := range may() {
		holdRight(t, x, true)
		holdRight(t, sample.Roomy([]api.Node{x})[0], true)
		holdRight(t, bare(x, true), true)
	}
	for _, x := range sample.MayNot() {
		holdRight(t, x, false)
		holdRight(t, sample.Roomy([]api.Node{x})[0], false)
	}
}

func TestP602RightAllTogether(t *testing.T) {
	ends := []int{least, -1001, -3, -2, -1, 0, 1, 2, 3, 500, 999, 1000, 1001, 1002, greatest}
	for _, kind := range []api.Kind{api.Kind(least), -9, -1, 0, 1, 2, 3, 4, 5, 6, 7, 8, 9, 10, 11, 12, api.Kind(greatest)} {
		for _, n := range []int{0, 1, 2, 3, 4, 9, 100} {
			for _, s := range []api.Set{{}, just(0), just(64), just(128), just(255), all()} {
				l := slices.Repeat([]api.Node{of(2)}, n)
				for _, lo := range ends {
					for _, hi := range ends {
						x := api.Node{Kind: kind, Set: s, Kids: l, Lo: lo, Hi: hi}
						if got := Right(x); got != right(x) {
							t.Fatalf("Right(%.300s) = %t", dump(x), got)
						}
					}
				}
			}
		}
	}
	for lo := -2; lo <= 1002; lo++ {
		for _, hi := range []int{-3, -2, -1, 0, 1, lo - 1, lo, lo + 1, 999, 1000, 1001} {
			x := rep(b(), lo, hi)
			if got := Right(x); got != right(x) {
				t.Fatalf("Right(%s) = %t", dump(x), got)
			}
		}
	}
}

// A node that may not be is met wherever it stands, and another one that may be does no harm there.
func TestP602RightAtEachPlace(t *testing.T) {
	for _, x := range may() {
		for place := range nodes(x) {
			for _, y := range sample.MayNot() {
				holdRight(t, with(x, place, instead(y)), false)
			}
			holdRight(t, with(x, place, instead(of(4, a(), of(2)))), true)
		}
	}
	for _, y := range sample.MayNot() {
		for _, place := range []int{0, 1, 2, 2000, 3999, 4000} {
			holdRight(t, with(beside(4, 4001), place, instead(y)), false)
			holdRight(t, with(sample.Chain(4001), place, instead(y)), false)
		}
	}
}

func TestP602RightMaxNodes(t *testing.T) {
	next := sample.Chances()
	mixed := func(n int) api.Node { return sample.Grown(n, next) }
	halves := func(n int) api.Node { return of(5, sample.Chain(n/2), beside(4, n-1-n/2)) }
	for name, made := range map[string]func(n int) api.Node{
		"chain": sample.Chain, "cat": func(n int) api.Node { return beside(4, n) }, "alt": func(n int) api.Node { return beside(5, n) },
		"star of alt": func(n int) api.Node { return of(6, beside(5, n-1)) }, "mixed": mixed, "halves": halves,
		"twin": func(n int) api.Node { return of(4, twin(11), sample.Chain(n-2048)) },
	} {
		for _, n := range []int{4094, 4095, 4096, 4097, 4098, 5000, 9000} {
			x := made(n)
			if nodes(x) != n {
				t.Fatalf("%s of %d has %d nodes", name, n, nodes(x))
			}
			if got := Right(x); got != (n <= 4096) {
				t.Errorf("Right of %s of %d nodes = %t", name, n, got)
			}
		}
	}
	// Slopes have odd numbers of nodes.
	for _, left := range []bool{true, false} {
		holdRight(t, slope(2048, left), true)
		holdRight(t, of(6, slope(2048, left)), true)
		holdRight(t, slope(2049, left), false)
	}
	holdRight(t, twin(12), true)
	holdRight(t, of(7, twin(12)), true)
	holdRight(t, of(7, of(7, twin(12))), false)
	// So many that they must not all be gone through: 2^31 - 1.
	holdRight(t, twin(31), false)
}

func TestP602Size(t *testing.T) {
	for _, c := range []struct {
		x    api.Node
		want int
	}{
		{api.Node{}, 1}, {a(), 1}, {of(1), 1}, {of(2), 1}, {of(10), 1}, {of(6, a()), 2}, {of(4, a(), b()), 3}, {of(4, a(), b(), a()), 4},
		{of(4, of(6, a()), of(5, a(), of(2)), rep(a(), 2, -1)), 8},
		{of(3, a(), b()), 3}, {of(1, of(3, a())), 3}, {of(-7, of(0, of(0), of(0)), of(99)), 5}, {of(2, of(2, of(2))), 3},
		{sample.Chain(5000), 5000}, {sample.Chain(deep), deep}, {beside(5, 5000), 5000}, {beside(3, wide), wide}, {slope(deep, true), 2*deep - 1}, {slope(deep, false), 2*deep - 1}, {twin(20), 1<<20 - 1},
	} {
		if got := Size(c.x); got != c.want {
			t.Errorf("Size(%.300s) = %d, want %d", dump(c.x), got, c.want)
		}
	}
	for _, x := range both() {
		if got := Size(x); got != nodes(x) {
			t.Errorf("Size(%.300s) = %d, want %d", dump(x), got, nodes(x))
		}
	}
}

// holdSame tells where Same is not what is wanted, one way or the other.
func holdSame(t *testing.T, x, y api.Node, want bool) {
	t.Helper()
	if one, other := Same(x, y), Same(y, x); one != want || other != want {
		t.Errorf("Same of %.300s and %.300s = %t, and the other way %t", dump(x), dump(y), one, other)
	}
}

func TestP602Same(t *testing.T) {
	holdSame(t, api.Node{}, api.Node{Kids: []api.Node{}}, true)
	holdSame(t, of(4, a()), of(4, a(), b()), false)
	holdSame(t, of(4, a(), b()), of(4, b(), a()), false)
	holdSame(t, of(4), of(4, a()), false)
	l, known := both(), len(may())
	dumps := make([]string, len(l))
	for i, x := range l {
		dumps[i] = dump(x)
	}
	for i, x := range l {
		for j, y := range l {
			holdSame(t, x, y, dumps[i] == dumps[j])
			if i < j && j < known && Same(x, y) {
				t.Errorf("%.300s stands twice among what may be", dump(x))
			}
		}
		holdSame(t, x, x, true)
		holdSame(t, bare(x, true), bare(x, false), true)
		holdSame(t, sample.Roomy([]api.Node{x})[0], x, true)
	}
}

// changes: one thing of a node made another one; those that don't fit it leave it.
func changes() []func(api.Node) api.Node {
	l := []func(api.Node) api.Node{
		func(x api.Node) api.Node { x.Kind++; return x },
		func(x api.Node) api.Node { x.Kind--; return x },
		func(x api.Node) api.Node { x.Lo++; return x },
		func(x api.Node) api.Node { x.Hi++; return x },
		func(x api.Node) api.Node { x.Hi--; return x },
		func(x api.Node) api.Node { x.Lo, x.Hi = x.Lo-1, x.Hi+1; return x },
		func(x api.Node) api.Node { x.Kids = append(slices.Clone(x.Kids), of(2)); return x },
		func(x api.Node) api.Node { x.Kids = append([]api.Node{of(2)}, x.Kids...); return x },
		func(x api.Node) api.Node { x.Kids = x.Kids[:len(x.Kids)/2]; return x },
		func(x api.Node) api.Node { x.Kids = x.Kids[min(1, len(x.Kids)):]; return x },
		func(x api.Node) api.Node { x.Kids = x.Kids[:max(0, len(x.Kids)-1)]; return x },
		func(x api.Node) api.Node { x.Kids = slices.Clone(x.Kids); slices.Reverse(x.Kids); return x },
		func(x api.Node) api.Node { return of(6, x) },
	}
	for place := range 4 {
		l = append(l, func(x api.Node) api.Node { x.Set[place] ^= 1 << (20 * place); return x })
	}
	return l
}

func TestP602SameButForOneThing(t *testing.T) {
	differ := 0
	for _, x := range both() {
		for place := range nodes(x) {
			for _, change := range changes() {
				y := with(x, place, change)
				same := dump(x) == dump(y)
				holdSame(t, x, y, same)
				if !same {
					differ++
				}
			}
		}
	}
	if differ < 10000 {
		t.Errorf("no more than %d pairs differ", differ)
	}
	for _, x := range []api.Node{sample.Chain(deep), slope(deep, true), slope(deep, false), beside(4, deep)} {
		n := Size(x)
		for _, place := range []int{0, 1, n / 2, n - 1} {
			for _, change := range changes()[:3] {
				holdSame(t, x, with(x, place, change), false)
			}
			holdSame(t, x, with(x, place, func(y api.Node) api.Node { return y }), true)
		}
	}
}

func TestP602Copy(t *testing.T) {
	for _, x := range both() {
		hold(t, "Copy", Copy(x), x)
		if !Same(Copy(x), x) || !Same(x, Copy(bare(x, true))) {
			t.Errorf("Copy of %.300s is not the Same", dump(x))
		}
	}
}

func TestP603NoneEmptyBytes(t *testing.T) {
	hold(t, "None", None(), api.Node{Kind: api.KindNone})
	hold(t, "Empty", Empty(), api.Node{Kind: api.KindEmpty})
	for _, s := range []api.Set{{}, just(0), just('a'), just(255), {1, 2, 3, 4}, all()} {
		hold(t, "Bytes", Bytes(s), api.Node{Kind: api.KindSet, Set: s})
	}
}

func TestP603Word(t *testing.T) {
	hold(t, "Word of none", Word(), of(2))
	hold(t, "Word of none", Word([]byte{}...), of(2))
	hold(t, "Word of ab", Word('a', 'b'), of(4, a(), b()))
	hold(t, "Word of aba", Word([]byte("aba")...), of(4, a(), b(), a()))
	hold(t, "Word of 0 and 255", Word(0, 255), of(4, api.Node{Kind: 3, Set: api.Set{1}}, api.Node{Kind: 3, Set: api.Set{0, 0, 0, 1 << 63}}))
	var every []byte
	want := of(4)
	for c := range 256 {
		x := api.Node{Kind: 3, Set: just(byte(c))}
		hold(t, "Word of "+strconv.Itoa(c), Word(byte(c)), x)
		every = append(every, byte(c))
		want.Kids = append(want.Kids, x)
	}
	hold(t, "Word of all bytes", Word(every...), want)
	hold(t, "Word of many", Word(bytes.Repeat(every, wide/256)...), of(4, slices.Repeat(want.Kids, wide/256)...))
}

func TestP603CatAndAlt(t *testing.T) {
	hold(t, "Cat of none", Cat(), of(2))
	hold(t, "Alt of none", Alt(), of(1))
	hold(t, "Cat of an empty list", Cat([]api.Node{}...), of(2))
	hold(t, "Alt of an empty list", Alt([]api.Node{}...), of(1))
	hold(t, "Cat of a and b", Cat(a(), b()), of(4, a(), b()))
	hold(t, "Alt of b and a", Alt(b(), a()), of(5, b(), a()))
	// Nothing is made simple.
	hold(t, "Cat of Cats", Cat(of(4, a(), b()), of(2), of(1)), of(4, of(4, a(), b()), of(2), of(1)))
	hold(t, "Alt of Alts", Alt(of(5, a(), b()), a(), a()), of(5, of(5, a(), b()), a(), a()))
	l := both()
	for i, x := range l {
		hold(t, "Cat of one", Cat(x), x)
		hold(t, "Alt of one", Alt(x), x)
		for _, n := range []int{2, 3, 7} {
			some := append(slices.Clone(l[i:]), l[:i]...)[:n]
			hold(t, "Cat", Cat(some...), of(4, some...))
			hold(t, "Alt", Alt(some...), of(5, some...))
		}
	}
	hold(t, "Cat of all", Cat(l...), of(4, l...))
	hold(t, "Alt of all", Alt(l...), of(5, l...))
}

func TestP603OfOneKid(t *testing.T) {
	for _, x := range both() {
		hold(t, "Star", Star(x), of(6, x))
		hold(t, "Plus", Plus(x), of(7, x))
		hold(t, "Opt", Opt(x), of(8, x))
		hold(t, "Rep", Rep(x, 2, 3), rep(x, 2, 3))
	}
	for _, lo := range []int{least, -2, -1, 0, 1, 7, 1000, 1001, greatest} {
		for _, hi := range []int{least, -2, -1, 0, 1, 7, 1000, 1001, greatest} {
			hold(t, "Rep", Rep(a(), lo, hi), rep(a(), lo, hi))
		}
	}
}

// What is made of trees that may be may be, too, if its numbers may.
func TestP603Right(t *testing.T) {
	for _, x := range may() {
		for _, y := range []api.Node{Cat(x), Alt(x), Cat(x, x), Alt(x, a(), x), Star(x), Plus(x), Opt(x), Rep(x, 0, 0), Rep(x, 1000, -1)} {
			holdRight(t, y, true)
		}
		holdRight(t, Rep(x, 3, 2), false)
	}
	for _, x := range sample.MayNot() {
		for _, y := range []api.Node{Cat(x), Alt(x), Cat(a(), x), Alt(x, a()), Star(x), Plus(x), Opt(x), Rep(x, 0, 1)} {
			holdRight(t, y, false)
		}
	}
	for _, x := range []api.Node{None(), Empty(), Bytes(api.Set{}), Bytes(all()), Word(), Word(0), Word(0, 255), Cat(), Alt()} {
		holdRight(t, x, true)
	}
}

// leaves: Leaves, by another way through the tree.
func leaves(x api.Node) (l []api.Set) {
	if x.Kind == 3 {
		return []api.Set{x.Set}
	}
	for _, kid := range x.Kids {
		l = append(l, leaves(kid)...)
	}
	return l
}

func holdLeaves(t *testing.T, x api.Node, want ...api.Set) {
	t.Helper()
	if got := Leaves(x); !slices.Equal(got, want) {
		t.Errorf("Leaves(%.300s) = %.300x, want %.300x", dump(x), got, want)
	}
}

func TestP604Leaves(t *testing.T) {
	holdLeaves(t, of(1))
	holdLeaves(t, of(2))
	holdLeaves(t, api.Node{})
	holdLeaves(t, of(4, of(6, of(2)), of(1)))
	holdLeaves(t, a(), just('a'))
	holdLeaves(t, api.Node{Kind: 3}, api.Set{})
	holdLeaves(t, of(4, b(), a(), b(), api.Node{Kind: 3}, api.Node{Kind: 3, Set: all()}, b()), just('b'), just('a'), just('b'), api.Set{}, all(), just('b'))
	holdLeaves(t, of(5, of(4, of(6, b()), rep(of(5, a(), b()), 2, 2)), of(8, a()), b()), just('b'), just('a'), just('b'), just('a'), just('b'))
	// What is below a set is not looked at; what is below all others is.
	holdLeaves(t, api.Node{Kind: 3, Set: just('x'), Kids: []api.Node{a(), of(6, b())}}, just('x'))
	holdLeaves(t, of(4, b(), of(3, a(), of(3, b())), a()), just('b'), api.Set{}, just('a'))
	holdLeaves(t, of(6, of(3, a()), b()), api.Set{}, just('b'))
	for _, kind := range []api.Kind{api.Kind(least), -1, 0, 1, 2, 4, 5, 6, 7, 8, 9, 10, 11, api.Kind(greatest)} {
		holdLeaves(t, of(kind))
		holdLeaves(t, of(kind, a()), just('a'))
		holdLeaves(t, of(kind, b(), of(kind, a(), of(3, b())), a(), b()), just('b'), just('a'), api.Set{}, just('a'), just('b'))
		// The Set of a node of another kind is no leaf.
		holdLeaves(t, api.Node{Kind: kind, Set: just('x'), Kids: []api.Node{b()}}, just('b'))
	}
	for _, x := range both() {
		holdLeaves(t, x, leaves(x)...)
	}
}

func TestP605Size(t *testing.T) {
	for _, x := range []api.Node{None(), Empty(), Bytes(all()), Cat(), Alt(), Word(), Word('a')} {
		if Size(x) != 1 {
			t.Errorf("Size(%s) = %d", dump(x), Size(x))
		}
	}
	l := both()
	sum := 0
	for i, x := range l {
		for _, y := range []api.Node{Star(x), Plus(x), Opt(x), Rep(x, 0, 5), Rep(x, -9, 7000)} {
			if Size(y) != 1+Size(x) {
				t.Errorf("Size(%.300s) = %d, above one of %d", dump(y), Size(y), Size(x))
			}
		}
		for _, y := range []api.Node{Copy(x), Cat(x), Alt(x)} {
			if Size(y) != Size(x) {
				t.Errorf("Size(%.300s) = %d, want %d", dump(y), Size(y), Size(x))
			}
		}
		sum += Size(x)
		if i == 0 {
			continue
		}
		for _, y := range []api.Node{Cat(l[:i+1]...), Alt(l[:i+1]...)} {
			if Size(y) != 1+sum {
				t.Errorf("Size of %d parts = %d, want %d", i+1, Size(y), 1+sum)
			}
		}
	}
	for n := 2; n < 300; n++ {
		if x := Word(make([]byte, n)...); Size(x) != 1+n {
			t.Errorf("Size of a Word of %d = %d", n, Size(x))
		}
	}
}

func TestDeepAndWide(t *testing.T) {
	for _, x := range []api.Node{sample.Chain(deep - 1), slope(deep-1, true), slope(deep-1, false), beside(4, wide), beside(5, wide), of(4, slope(1000, true), beside(5, deep), sample.Chain(deep-2))} {
		n, order := Size(x), inOrder(x)
		holdRight(t, x, false)
		hold(t, "Copy", Copy(x), x)
		holdSame(t, x, Copy(x), true)
		holdLeaves(t, x, order...)
		for _, y := range []api.Node{Star(x), Plus(x), Opt(x), Rep(x, 1, 2)} {
			if !Same(y.Kids[0], x) || len(y.Kids) != 1 || Size(y) != n+1 || Right(y) {
				t.Errorf("%.100s above %.100s", dump(y), dump(x))
			}
		}
		for _, y := range []api.Node{Cat(a(), x, b()), Alt(a(), x, b())} {
			if !Same(y.Kids[1], x) || len(y.Kids) != 3 || Size(y) != n+3 || Right(y) {
				t.Errorf("%.100s above %.100s", dump(y), dump(x))
			}
			holdLeaves(t, y, append(append([]api.Set{just('a')}, order...), just('b'))...)
		}
		if !Same(Cat(x), x) || !Same(Alt(x), x) {
			t.Errorf("Cat, or Alt, of %.100s alone", dump(x))
		}
	}
}

// inOrder: the Sets of a tree's nodes of KindSet, read from its dump, where these stand in a row from the left.
func inOrder(x api.Node) (l []api.Set) {
	for _, piece := range strings.Split(dump(x), "<")[1:] {
		words := strings.Fields(strings.TrimRight(piece, ">"))
		if words[0] != "3" {
			continue
		}
		var s api.Set
		for i := range s {
			s[i], _ = strconv.ParseUint(words[1+i], 16, 64)
		}
		l = append(l, s)
	}
	return l
}

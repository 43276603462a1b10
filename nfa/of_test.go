package nfa

import (
	"slices"
	"testing"

	"doublet/api"
	"doublet/sample"
	"doublet/tree"
)

// holdShown: the machine of some trees is, as a text, one that is written out.
func holdShown(t *testing.T, want string, l ...api.Node) {
	t.Helper()
	if n := made(t, l...); shown(n) != want {
		t.Errorf("of %s comes\n%s, want\n%s", several(l), front(shown(n)), front(want))
	}
}

func TestP1603OfFewTrees(t *testing.T) {
	holdShown(t, "1 states from 0, links , edges , labels [0]")
	holdShown(t, "1 states from 0, links , edges , labels [0]", []api.Node{}...)
	holdShown(t, "3 states from 0, links 1>2, edges 0[a]1, labels [0 0 1]", a())
	holdShown(t, "5 states from 0, links 1>2 3>4, edges 0[a]1 0[b]3, labels [0 0 1 0 2]", a(), b())
	holdShown(t, "5 states from 0, links 1>2 3>4, edges 0[a]1 0[a]3, labels [0 0 1 0 2]", a(), a())
	holdShown(t, "4 states from 0, links 0>1 0>2 0>3, edges , labels [0 1 2 3]", e(), e(), e())
	holdShown(t, "5 states from 0, links 1>2 3>4, edges , labels [0 0 1 0 2]", none(), none())
	holdShown(t, "6 states from 0, links 0>1 2>3 0>4 0>4 4>5, edges 0[a]2, labels [0 1 0 2 0 3]", e(), a(), read("|"))
	holdShown(t, "9 states from 0, links 0>1 2>1 1>3 4>5 0>5 5>6 7>8, edges 1[a]2 0[b]4 0[c]7, labels [0 0 0 1 0 0 2 0 3]", read("a*"), read("b?"), c())
}

// As many trees as there may be, and more.
func TestP1603ErrMany(t *testing.T) {
	for n := range 65 {
		for _, x := range []api.Node{e(), a(), none(), of(5, a(), b()), rep(a(), 3, 9)} {
			l := again(n, x)
			holdShape(t, l, made(t, l...))
		}
	}
	big, wrong := exactly(70000), api.Node{}
	for _, n := range []int{65, 66, 100, 1000, 1 << 18} {
		holdWrong(t, again(n, e()), api.ErrMany)
		holdWrong(t, again(n, a()), api.ErrMany)
		// Also where other errors apply.
		holdWrong(t, again(n, wrong), api.ErrMany)
		holdWrong(t, again(n, big), api.ErrMany)
		holdWrong(t, append(again(n-1, a()), wrong), api.ErrMany)
		holdWrong(t, append(again(n-2, big), wrong, big), api.ErrMany)
	}
	holdWrong(t, again(64, wrong), api.ErrKind)
	holdWrong(t, again(64, big), api.ErrBig)
	holdWrong(t, append(again(63, big), wrong), api.ErrKind)
}

// Each fault of a tree, as the first, a middle and the last one of some.
func TestP1603ErrKind(t *testing.T) {
	t.Parallel()
	big := exactly(70000)
	for x := range sample.Faults() {
		holdWrong(t, []api.Node{x}, api.ErrKind)
	}
	for _, x := range append(sample.MayNot(), sample.TooGreat()...) {
		for _, l := range [][]api.Node{
			{x, a(), b()}, {a(), x, b()}, {a(), b(), x}, {x, x}, {of(4, a(), x), b()}, {a(), of(6, of(6, x))}, {rep(x, 0, 0)}, {of(4, a(), rep(x, 0, 0))},
			append([]api.Node{x}, again(63, a())...), append(again(63, e()), x),
			// Also where there are too many states.
			{big, x}, {x, big}, {a(), x, big}, {big, big, x}, {of(4, big, x)}, {rep(rep(x, 1000, 1000), 1000, 1000)},
		} {
			holdWrong(t, l, api.ErrKind)
		}
	}
	// A KindCat, and a KindAlt, of one Kid may not be, nor of none.
	for _, kind := range []api.Kind{api.KindCat, api.KindAlt} {
		holdWrong(t, []api.Node{of(kind)}, api.ErrKind)
		holdWrong(t, []api.Node{of(kind, a())}, api.ErrKind)
		holdShape(t, []api.Node{of(kind, a(), a())}, made(t, of(kind, a(), a())))
	}
	// As many nodes as may be, and one more.
	for _, kind := range []api.Kind{api.KindCat, api.KindAlt} {
		for _, kid := range []api.Node{a(), e(), none()} {
			holdModelled(t, sample.Beside(kind, 4096, kid))
			holdWrong(t, []api.Node{sample.Beside(kind, 4097, kid)}, api.ErrKind)
		}
	}
	for kind := api.KindStar; kind <= api.KindOpt; kind++ {
		deep := sample.Within(4096, a(), func(x api.Node) api.Node { return of(kind, x) })
		holdModelled(t, deep)
		holdShape(t, again(15, deep), made(t, again(15, deep)...))
		holdWrong(t, []api.Node{of(kind, deep)}, api.ErrKind)
	}
}

// heavy: trees whose Weight is n, by each kind that a tree may have above others.
func heavy(n int) []api.Node {
	return []api.Node{
		exactly(n), of(4, exactly(n-2), a(), none()), of(4, a(), e(), exactly(n-1)), of(5, exactly(n-1), e()), of(5, a(), exactly(n-3), a()),
		of(6, exactly(n-1)), of(7, exactly(n-1)), of(8, exactly(n-1)), of(6, of(7, of(8, exactly(n-3)))),
		of(4, rep(exactly((n-1)/2), 1, -1), exactly((n-1)%2)), of(4, rep(exactly((n-1)/100), 0, 100), exactly((n-1)%100)), of(4, rep(exactly((n-1)/100), 99, 100), exactly((n-1)%100)), of(4, rep(exactly(n/7), 7, 7), exactly(n%7)),
		rep(exactly(n-1), 0, 1), rep(exactly(n-1), 0, -1),
	}
}

// As many states as may be, and one more.
func TestP1603ErrBigAtTheEdge(t *testing.T) {
	t.Parallel()
	for size := 65534; size < 65540; size++ {
		for _, x := range heavy(size - 2) {
			holdEdge(t, size, x)
		}
		for _, x := range heavy(size - 4) {
			holdEdge(t, size, x, a())
			holdEdge(t, size+1, e(), x, e(), rep(b(), 0, 0))
		}
		holdEdge(t, size, exactly(30000), exactly(size-30003))
		holdEdge(t, size, append(again(62, exactly(1000)), exactly(size-1-62*1001-1))...)
		holdEdge(t, size, append([]api.Node{exactly(size - 65)}, again(63, e())...)...)
	}
	if t.Failed() {
		return
	}
	// The model, which takes some time, for a few of them.
	for _, x := range heavy(65534) {
		holdModelled(t, x)
	}
	holdModelled(t, append(again(62, rep(of(5, a(), b()), 5, 300)), of(7, c()))...)
}

// holdEdge: of trees whose Size is told there is a machine just if that is no more than MaxNfa.
func holdEdge(t *testing.T, size int, l ...api.Node) {
	t.Helper()
	if stopped(sizeOf(l)) != size {
		t.Errorf("the test is wrong: %s have %d states, not %d", several(l), stopped(sizeOf(l)), size)
	}
	if size > 65536 {
		holdWrong(t, l, api.ErrBig)
		return
	}
	holdShape(t, l, made(t, l...))
}

func TestP1603ErrBig(t *testing.T) {
	huge := sample.Within(41, a(), func(x api.Node) api.Node { return rep(x, 1000, 1000) })
	for _, l := range [][]api.Node{
		{rep(rep(a(), 256, 256), 256, 256)}, {exactly(Top)}, {exactly(Top - 2)}, {exactly(Top + 1)}, {huge}, {of(4, huge, huge)}, {rep(huge, 0, -1)}, {a(), huge}, {huge, huge, e()},
		again(64, huge), again(64, exactly(1023)), again(2, exactly(32767)), {rep(rep(of(5, e(), e()), 300, 300), 300, 300)},
	} {
		holdWrong(t, l, api.ErrBig)
	}
	// What is laid 0 times takes no room.
	holdShown(t, "3 states from 0, links 0>1 0>2, edges , labels [0 1 2]", rep(huge, 0, 0), rep(rep(huge, 0, 0), 1000, -1))
	// Nor does what takes none, however often.
	holdShown(t, "2 states from 0, links 0>1, edges , labels [0 1]", rep(rep(rep(rep(e(), 1000, 1000), 0, 1000), 1000, -1), 1000, 1000))
}

// The same trees in another order have other labels, and others' states.
func TestP1603Order(t *testing.T) {
	next := sample.Chances()
	for range 300 {
		l := someTrees(8, next)
		holdModelled(t, l...)
		slices.Reverse(l)
		holdModelled(t, l...)
	}
	if Same(made(t, a(), b()), made(t, b(), a())) || Same(made(t, a(), e()), made(t, e(), a())) {
		t.Error("machines of trees in two orders are the same")
	}
}

// What was put together by package tree, of no, one and many trees.
func TestP1603TreesOfLists(t *testing.T) {
	holdShown(t, "2 states from 0, links 0>1, edges , labels [0 1]", tree.Cat())
	holdShown(t, "3 states from 0, links 1>2, edges , labels [0 0 1]", tree.Alt())
	holdShown(t, "3 states from 0, links 1>2, edges 0[a]1, labels [0 0 1]", tree.Cat(a()))
	holdShown(t, "3 states from 0, links 1>2, edges 0[a]1, labels [0 0 1]", tree.Alt(a()))
	holdShown(t, "5 states from 0, links 1>3 2>3 3>4, edges 0[a]1 0[b]2, labels [0 0 0 0 1]", tree.Alt(a(), b()))
	for n := 2; n < 300; n++ {
		holdModelled(t, tree.Cat(again(n, a())...))
		holdModelled(t, tree.Alt(again(n, a())...))
	}
}

package simple

import (
	"math"
	"strconv"
	"testing"

	"doublet/api"
	"doublet/sample"
	"doublet/sets"
	"doublet/texts"
	"doublet/tree"
)

const (
	greatest = math.MaxInt
	least    = math.MinInt
)

// Short names for what most trees are made of.
var (
	a, b, c, e = sample.A, sample.B, sample.C, sample.Empty
	none, hole = sample.None, sample.Hole
	of, times  = sample.Of, sample.Rep

	allWords, anyWord, spoken = sample.AllWords, sample.AnyWord, sample.Spoken

	read, brief = texts.Tree, texts.Brief
)

// again: a tree of n nodes of a kind, one above the other, and an a below.
func again(n int, kind api.Kind) api.Node {
	return sample.Within(n, a(), func(x api.Node) api.Node { return of(kind, x) })
}

// ofSet: a leaf of a set.
func ofSet(s api.Set) api.Node { return api.Node{Kind: api.KindSet, Set: s} }

// chars: a leaf of a text's bytes.
func chars(text string) api.Node { return ofSet(sets.Of([]byte(text)...)) }

// simpleOf: what Of tells of a tree that may be.
func simpleOf(t *testing.T, x api.Node) api.Node {
	t.Helper()
	y, wrong := Of(x)
	if wrong != api.OK {
		t.Errorf("Of(%s) tells %d", brief(x), wrong)
	}
	return y
}

// is: is a tree of one of some kinds?
func is(x api.Node, kinds ...api.Kind) bool {
	for _, kind := range kinds {
		if x.Kind == kind {
			return true
		}
	}
	return false
}

// tellable: could Of tell a tree, by what may stand below what?
func tellable(x api.Node) bool {
	for i, kid := range x.Kids {
		// Nothing says no word but the whole tree; the empty one alone is said beside others.
		if !tellable(kid) || is(kid, 1) || is(kid, 2) && x.Kind != 5 {
			return false
		}
		for _, other := range x.Kids[:i] {
			if x.Kind == 5 && (tree.Same(kid, other) || is(kid, 3) && is(other, 3)) {
				return false
			}
		}
		if is(x, 4, 5) && is(kid, x.Kind) || is(x, 6, 7, 8) && is(kid, 6, 7, 8) {
			return false
		}
	}
	if x.Kind == 9 && (x.Hi == 0 || x.Lo < 2 && x.Hi == -1 || x.Hi == 1) {
		return false
	}
	return tree.Right(x) && (x.Kind != 3 || x.Set != api.Set{})
}

// written: a call of trees.
func written(call string, l []api.Node) string {
	for _, x := range l {
		call += " " + brief(x)
	}
	return call
}

// holdTree: a call of trees tells one.
func holdTree(t *testing.T, got, want api.Node, call string, l ...api.Node) {
	t.Helper()
	if !tree.Same(got, want) {
		t.Errorf("%s = %s, want %s", written(call, l), brief(got), brief(want))
	}
}

// holdMade: what was made of simple trees is a tree, one that Of could tell, and of new memory; of the whole of them Of tells the same.
func holdMade(t *testing.T, got, whole, want api.Node, call string, l ...api.Node) {
	t.Helper()
	for _, x := range l {
		if !tellable(x) {
			t.Fatalf("%s: %s is not simple", written(call, l), brief(x))
		}
	}
	holdTree(t, got, want, call, l...)
	if !tellable(got) {
		t.Errorf("%s = %s, which is not simple", written(call, l), brief(got))
	}
	if sample.Shared(got) || sample.Shared(append(l, got)...) && !sample.Shared(l...) {
		t.Errorf("%s = %s shares memory", written(call, l), brief(got))
	}
	holdTree(t, simpleOf(t, whole), want, "Of", whole)
}

// holdCat, holdAlt, holdStar, holdPlus, holdOpt, holdRep: so it is with what Cat, and each of the others, makes of simple trees.
func holdCat(t *testing.T, want api.Node, l ...api.Node) {
	t.Helper()
	holdMade(t, Cat(l...), tree.Cat(l...), want, "Cat", l...)
}

func holdAlt(t *testing.T, want api.Node, l ...api.Node) {
	t.Helper()
	holdMade(t, Alt(l...), tree.Alt(l...), want, "Alt", l...)
}

func holdStar(t *testing.T, want, x api.Node) {
	t.Helper()
	holdMade(t, Star(x), tree.Star(x), want, "Star", x)
}

func holdPlus(t *testing.T, want, x api.Node) {
	t.Helper()
	holdMade(t, Plus(x), tree.Plus(x), want, "Plus", x)
}

func holdOpt(t *testing.T, want, x api.Node) {
	t.Helper()
	holdMade(t, Opt(x), tree.Opt(x), want, "Opt", x)
}

func holdRep(t *testing.T, want, x api.Node, lo, hi int) {
	t.Helper()
	holdMade(t, Rep(x, lo, hi), tree.Rep(x, lo, hi), want, "Rep from "+strconv.Itoa(lo)+" to "+strconv.Itoa(hi), x)
}

// holdOf: Of of a tree that may be tells one, which may be, has no more nodes, and of which Of tells itself.
func holdOf(t *testing.T, x, want api.Node) {
	t.Helper()
	got := simpleOf(t, x)
	holdTree(t, got, want, "Of", x)
	if !tree.Right(got) || tree.Size(got) > tree.Size(x) {
		t.Errorf("Of(%s) = %s: Right is %t, and it has %d nodes of %d", brief(x), brief(got), tree.Right(got), tree.Size(got), tree.Size(x))
	}
	holdTree(t, simpleOf(t, got), got, "Of", got)
}

// holdWrong: Of of a tree that may not be tells ErrKind, and a zero tree.
func holdWrong(t *testing.T, x api.Node) {
	t.Helper()
	got, wrong := Of(x)
	if wrong != api.ErrKind || !tree.Same(got, api.Node{}) {
		t.Errorf("Of(%s) = %s, %d", brief(x), brief(got), wrong)
	}
}

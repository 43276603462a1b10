package nfa

import (
	"math"
	"slices"
	"testing"

	"doublet/api"
	"doublet/sample"
	"doublet/texts"
)

const (
	greatest = math.MaxInt
	least    = math.MinInt
)

const nothing = texts.Nothing

// Short names for what most trees are made of.
var (
	a, b, c, e       = sample.A, sample.B, sample.C, sample.Empty
	none, hole, leaf = sample.None, sample.Hole, sample.Leaf
	of, rep, exactly = sample.Of, sample.Rep, sample.Exactly

	read, brief             = texts.Tree, texts.Brief
	linksOf, edgesOf, shown = texts.Links, texts.Edges, texts.Machine
	several, front          = texts.Several, texts.Front

	bare, full, outsides = sample.Bare, sample.Full, sample.Outside
	numbersOf, someTrees = sample.Numbers, sample.SomeTrees
)

// again: some trees that are all alike.
func again(n int, x api.Node) []api.Node { return slices.Repeat([]api.Node{x}, n) }

// made: the machine of trees that has one.
func made(t *testing.T, l ...api.Node) api.Nfa {
	t.Helper()
	n, wrong := Of(l)
	if wrong != api.OK {
		t.Errorf("Of %s tells %d", several(l), wrong)
	}
	return n
}

// holdWrong: Of tells an error of some trees, and no machine beside it.
func holdWrong(t *testing.T, l []api.Node, want api.Errno) {
	t.Helper()
	n, wrong := Of(l)
	if wrong != want {
		t.Errorf("Of %s tells %d, want %d", several(l), wrong, want)
	}
	if n.States != 0 || n.Start != 0 || len(n.Links)+len(n.Edges)+len(n.Accept) > 0 {
		t.Errorf("beside the error %d of %s stands %s", wrong, several(l), front(shown(n)))
	}
}

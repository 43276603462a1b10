package nfa

import (
	"fmt"
	"math"
	"slices"
	"strings"
	"testing"

	"doublet/api"
	"doublet/class"
	"doublet/sample"
	"doublet/texts"
)

const (
	greatest = math.MaxInt
	least    = math.MinInt
)

const nothing = texts.Nothing

// Short names for what most trees are made of.
var (
	a, b, c, e       = sample.A, sample.B, sample.C, sample.Empty
	none, hole, leaf = sample.None, sample.Hole, sample.Leaf
	of, rep, exactly = sample.Of, sample.Rep, sample.Exactly

	read, brief = texts.Tree, texts.Brief
)

// again: some trees that are all alike.
func again(n int, x api.Node) []api.Node { return slices.Repeat([]api.Node{x}, n) }

// someTrees: fewer than most random trees, with small numbers but for a few.
func someTrees(most int, next func(most int) int) []api.Node {
	var l []api.Node
	for range next(most) {
		x := sample.Small(1+next(25), next)
		if next(4) == 0 {
			x = sample.Grown(1+next(5), next)
		}
		l = append(l, x)
	}
	return l
}

// linksOf: links as a text, 1>2 3>4.
func linksOf(l []api.Link) string {
	var pieces []string
	for _, link := range l {
		pieces = append(pieces, fmt.Sprintf("%d>%d", link.From, link.To))
	}
	return strings.Join(pieces, " ")
}

// edgesOf: edges as a text, 0[a]1 1[bc]2.
func edgesOf(l []api.Edge) string {
	var pieces []string
	for _, edge := range l {
		pieces = append(pieces, fmt.Sprintf("%d%s%d", edge.From, class.Show(edge.Set), edge.To))
	}
	return strings.Join(pieces, " ")
}

// shown: all of a machine as a text; two machines have one text just if nothing tells them apart.
func shown(n api.Nfa) string {
	return fmt.Sprintf("%d states from %d, links %s, edges %s, labels %v", n.States, n.Start, linksOf(n.Links), edgesOf(n.Edges), n.Accept)
}

// front: of a text what has room in a line.
func front(text string) string {
	if len(text) > 600 {
		return text[:600] + " .."
	}
	return text
}

// several: the front of what some trees are written as.
func several(l []api.Node) string {
	var pieces []string
	for _, x := range l[:min(len(l), 5)] {
		pieces = append(pieces, brief(x))
	}
	return fmt.Sprintf("%d trees, %s", len(l), front(strings.Join(pieces, " and ")))
}

// made: the machine of trees that has one.
func made(t *testing.T, l ...api.Node) api.Nfa {
	t.Helper()
	n, wrong := Of(l)
	if wrong != api.OK {
		t.Errorf("Of %s tells %d", several(l), wrong)
	}
	return n
}

// holdWrong: Of tells an error of some trees, and no machine beside it.
func holdWrong(t *testing.T, l []api.Node, want api.Errno) {
	t.Helper()
	n, wrong := Of(l)
	if wrong != want {
		t.Errorf("Of %s tells %d, want %d", several(l), wrong, want)
	}
	if n.States != 0 || n.Start != 0 || len(n.Links)+len(n.Edges)+len(n.Accept) > 0 {
		t.Errorf("beside the error %d of %s stands %s", wrong, several(l), front(shown(n)))
	}
}

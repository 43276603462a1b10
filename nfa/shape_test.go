package nfa

import (
	"slices"
	"testing"

	"doublet/api"
	"doublet/sample"
)

// holdShape: what P1605 tells of a machine of trees, and where its labels are.
func holdShape(t *testing.T, l []api.Node, n api.Nfa) {
	t.Helper()
	if !Right(n) || n.States != Size(l) || n.Start != 0 || len(n.Accept) != n.States {
		t.Errorf("of %s comes a machine of %d states (Size is %d) from %d with %d labels; Right is %t", several(l), n.States, Size(l), n.Start, len(n.Accept), Right(n))
		return
	}
	for _, link := range n.Links {
		if link.To == n.Start || n.Accept[link.From] != 0 {
			t.Errorf("in the machine of %s a link leads from %d, whose label is %d, to %d", several(l), link.From, n.Accept[link.From], link.To)
		}
	}
	for _, edge := range n.Edges {
		if edge.To == n.Start || n.Accept[edge.From] != 0 {
			t.Errorf("in the machine of %s an edge leads from %d, whose label is %d, to %d", several(l), edge.From, n.Accept[edge.From], edge.To)
		}
	}
	// Labels rise, for each one is behind its tree.
	labels := slices.DeleteFunc(slices.Clone(n.Accept), func(label int) bool { return label == 0 })
	for i, label := range labels {
		if label != i+1 {
			t.Errorf("the labels of %s are %v", several(l), labels)
			return
		}
	}
	if len(labels) != len(l) {
		t.Errorf("the labels of %s are %v", several(l), labels)
	}
}

func TestP1605Shape(t *testing.T) {
	t.Parallel()
	next := sample.Chances()
	holdShape(t, nil, made(t))
	for range 3000 {
		l := slices.DeleteFunc(someTrees(12, next), func(x api.Node) bool { return Weight(x) > 5000 })
		holdShape(t, l, made(t, l...))
		if t.Failed() {
			return
		}
	}
	for _, x := range sample.Things() {
		holdShape(t, again(64, x), made(t, again(64, x)...))
	}
	for _, x := range []api.Node{exactly(65534), of(6, exactly(65533)), rep(of(8, a()), 0, 30000), rep(rep(of(5, e(), e()), 200, 200), 300, 300)} {
		if n, wrong := Of([]api.Node{x}); wrong == api.OK {
			holdShape(t, []api.Node{x}, n)
		}
	}
	// A machine that is Right need not have that shape.
	if n := (api.Nfa{States: 1, Links: []api.Link{{}}, Accept: []int{1}}); !Right(n) {
		t.Errorf("%s may not be", shown(n))
	}
}

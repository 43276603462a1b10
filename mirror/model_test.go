package mirror

import (
	"slices"
	"testing"

	"doublet/api"
	"doublet/nfa"
	"doublet/sample"
)

// modelTree: the same tree, the Kids of each node of KindCat in the other order.
func modelTree(x api.Node) api.Node {
	y := api.Node{Kind: x.Kind, Set: x.Set, Lo: x.Lo, Hi: x.Hi, Kids: make([]api.Node, len(x.Kids))}
	for i := range x.Kids {
		place := i
		if x.Kind == api.KindCat {
			place = len(x.Kids) - 1 - i
		}
		y.Kids[place] = modelTree(x.Kids[i])
	}
	return y
}

// modelNfa: the sentence of Nfa, one part after the other.
func modelNfa(n api.Nfa, label int) (api.Nfa, api.Errno) {
	if !nfa.Right(n) {
		return api.Nfa{}, api.ErrKind
	}
	if n.States == 65536 {
		return api.Nfa{}, api.ErrBig
	}
	if label < 1 || label > 64 {
		return api.Nfa{}, api.ErrRange
	}
	var m api.Nfa
	m.States = n.States + 1
	m.Start = n.States
	for i := range n.Links {
		m.Links = append(m.Links, api.Link{From: n.Links[i].To, To: n.Links[i].From})
	}
	for state := 0; state < n.States; state++ {
		if n.Accept[state] == label {
			m.Links = append(m.Links, api.Link{From: m.Start, To: state})
		}
	}
	for i := range n.Edges {
		m.Edges = append(m.Edges, api.Edge{From: n.Edges[i].To, Set: n.Edges[i].Set, To: n.Edges[i].From})
	}
	for state := 0; state < m.States; state++ {
		m.Accept = append(m.Accept, 0)
		if state == n.Start {
			m.Accept[state] = 1
		}
	}
	return m, api.OK
}

// holdModelled: of a machine and a label Nfa tells what the model does, and a machine that may be.
func holdModelled(t *testing.T, n api.Nfa, label int) api.Errno {
	t.Helper()
	want, wrong := modelNfa(n, label)
	if wrong != api.OK {
		holdWrong(t, n, label, wrong)
		return wrong
	}
	holdNfa(t, n, label, want)
	if !nfa.Right(want) {
		t.Errorf("Nfa(%s, %d) makes a machine that may not be", front(shown(n)), label)
	}
	return api.OK
}

// Random trees, such as may be and such as may not.
func TestModelledTrees(t *testing.T) {
	t.Parallel()
	next := sample.Chances()
	changed := 0
	hold := func(x api.Node) {
		want := modelTree(x)
		holdTree(t, Tree(x), want, "Tree(%s)", brief(x))
		holdTree(t, Tree(want), x, "Tree, twice, of %s", brief(x))
		if sample.Dump([]api.Node{want}) != sample.Dump([]api.Node{modelTree(want)}) {
			changed++
		}
	}
	for _, x := range slices.Concat(sample.Around(), sample.Things()) {
		hold(x)
	}
	for i := range 6000 {
		hold(sample.Grown(1+i%60, next))
		hold(sample.Small(1+i%30, next))
		hold(sample.Wild(next))
		if t.Failed() {
			return
		}
	}
	if changed < 6000 {
		t.Errorf("only %d trees are others when turned round", changed)
	}
	for n := 1000; n <= 100000; n += 9000 {
		hold(sample.Grown(n, next))
	}
}

// Random machines, also such as no trees make, and such as may not be; any label, and whatever number.
func TestModelledMachines(t *testing.T) {
	t.Parallel()
	next := sample.Chances()
	numbers := []int{least, -65, -2, -1, 0, 1, 5, 12, 63, 64, 65, 65, 128, 65536, 65537, 1 << 32, greatest}
	met := map[api.Errno]int{}
	begun := [4]int{}
	for range 20000 {
		n := sample.AnyMachine(1+next(15), next)
		switch next(3) {
		case 0:
			// With fewer labels more states have the same one.
			for i := range n.Accept {
				n.Accept[i] = next(3)
			}
		case 1:
			l := sample.Numbers(&n)
			for range next(3) {
				*l[next(len(l))] = numbers[next(len(numbers))]
			}
		}
		label := []int{1, 2, 64, next(65), numbers[next(len(numbers))], 1 + next(64)}[next(6)]
		if len(n.Accept) > 0 && next(3) == 0 {
			label = n.Accept[next(len(n.Accept))]
		}
		wrong := holdModelled(t, n, label)
		met[wrong]++
		if wrong == api.OK {
			m, _ := Nfa(n, label)
			begun[min(3, len(m.Links)-len(n.Links))]++
		}
		if t.Failed() {
			return
		}
	}
	if min(met[api.OK], met[api.ErrKind], met[api.ErrRange]) < 1500 || slices.Min(begun[:]) < 500 {
		t.Errorf("so often each error was met: %v; so often so many states had the label: %v", met, begun)
	}
}

// Greater ones.
func TestModelledGreatMachines(t *testing.T) {
	t.Parallel()
	next := sample.Chances()
	for _, states := range []int{63, 64, 65, 127, 128, 129, 1000, 10000, 65534, 65535, 65536} {
		for range 3 {
			n := sample.AnyMachine(states, next)
			for _, label := range []int{-1, 0, 1, n.Accept[next(states)], n.Accept[states-1], 64, 65} {
				holdModelled(t, n, label)
			}
		}
	}
}

// Machines of trees: each kind, alone and in a list, and random ones.
func TestModelledMachinesOfTrees(t *testing.T) {
	t.Parallel()
	next := sample.Chances()
	lists := [][]api.Node{nil, sample.Around(), slices.Repeat(sample.Things()[:16], 4)}
	for _, x := range slices.Concat(sample.Around(), sample.Things()) {
		lists = append(lists, []api.Node{x}, []api.Node{x, a(), x})
	}
	for range 500 {
		lists = append(lists, sample.SomeTrees(7, next))
	}
	for _, l := range lists {
		n, wrong := nfa.Of(l)
		// Trees of great numbers may take too many states, or many.
		if wrong != api.OK || n.States > 5000 {
			continue
		}
		for label := range len(l) + 2 {
			holdModelled(t, n, label)
		}
		if t.Failed() {
			return
		}
	}
}

package closure

import (
	"testing"

	"doublet/api"
	"doublet/nfa"
	"doublet/sample"
	"doublet/sets"
)

// holdWrong: New tells ErrKind of a machine that may not be, and no machine.
func holdWrong(t *testing.T, n api.Nfa) {
	t.Helper()
	if m, wrong := New(n); m != nil || wrong != api.ErrKind {
		t.Errorf("New of %d states from %d, with %d links, %d edges and %d labels, tells %d, and a machine: %t", n.States, n.Start, len(n.Links), len(n.Edges), len(n.Accept), wrong, m != nil)
	}
}

func TestP1702NewErrKind(t *testing.T) {
	t.Parallel()
	for n := range sample.WrongMachines() {
		if holdWrong(t, n); t.Failed() {
			return
		}
	}
}

// Random machines with whatever at some places.
func TestP1702NewErrKindWhatever(t *testing.T) {
	next := sample.Chances()
	met := map[bool]int{}
	for range 20000 {
		n := sample.AnyMachine(1+next(12), next)
		l := sample.Numbers(&n)
		for range next(3) {
			*l[next(len(l))] = []int{least, -2, -1, 0, 1, 5, 12, 64, 65, 65536, 65537, greatest}[next(12)]
		}
		right := nfa.Right(n)
		met[right]++
		if !right {
			holdWrong(t, n)
			continue
		}
		at(t, n)
	}
	if min(met[true], met[false]) < 5000 {
		t.Errorf("so often a machine may be, and may not: %v", met)
	}
}

func TestP1702NewOfFewAndMany(t *testing.T) {
	m := at(t, api.Nfa{States: 1, Accept: []int{7}})
	holdList(t, m.Start(), []int{0}, "Start of one state")
	holdList(t, m.Step([]int{0}, 'a'), nil, "Step of one state without edges")
	holdList(t, m.Labels([]int{0}), []int{7}, "Labels of one state")
	m = at(t, api.Nfa{States: 1, Links: []api.Link{{}, {}}, Edges: []api.Edge{edge(0, "a", 0)}, Accept: []int{0}})
	holdList(t, m.Run([]byte("aa")), []int{0}, "Run of one state")
	holdList(t, m.Run([]byte("ab")), nil, "Run of one state, by a byte of no edge")

	const most = 65536
	n := bare(most)
	n.Start = most - 1
	n.Links = []api.Link{{From: most - 1, To: 0}}
	n.Edges = []api.Edge{edge(0, "a", most-2), edge(most-1, "a", most-1)}
	n.Accept[most-2], n.Accept[most-1] = 64, 1
	m = at(t, n)
	holdList(t, m.Start(), []int{0, most - 1}, "Start of as many states as may be")
	holdList(t, m.Run([]byte("a")), []int{0, most - 2, most - 1}, "Run of as many states as may be")
	holdList(t, m.Labels(m.Run([]byte("a"))), []int{1, 64}, "Labels of as many states as may be")
	holdList(t, m.Closure(append(outsides(most), most-2)), []int{most - 2}, "Closure of one of as many states as may be")
	for _, states := range []int{most + 1, 2 * most} {
		holdWrong(t, bare(states))
		holdWrong(t, full(states))
	}
}

// What is handed in is not kept: what becomes of it later, also behind its lists, changes nothing.
func TestP1702NewKeepsNothing(t *testing.T) {
	next := sample.Chances()
	for range 500 {
		n := sample.AnyMachine(1+next(12), next)
		given := sample.RoomyMachine(n)
		m, other := at(t, given), at(t, n)
		want := asked(other, n.States)
		sample.ScribbleMachine(given)
		if got := asked(m, n.States); got != want {
			t.Fatalf("of %s is told\n%s, once what was handed in was written over; want\n%s", shown(n), front(got), front(want))
		}
	}
	// Each list by itself.
	n := linked(4, 0, 1)
	n.Edges, n.Accept = []api.Edge{edge(1, "a", 2)}, []int{0, 0, 5, 6}
	m := at(t, n)
	n.Links[0].To = 3
	holdList(t, m.Start(), []int{0, 1}, "Start, once a link leads elsewhere")
	n.Edges[0].To = 3
	holdList(t, m.Run([]byte("a")), []int{2}, "Run, once an edge leads elsewhere")
	n.Edges[0].Set = sets.Of('b')
	holdList(t, m.Run([]byte("a")), []int{2}, "Run, once an edge has another Set")
	n.Accept[2] = 9
	holdList(t, m.Labels([]int{2, 3}), []int{5, 6}, "Labels, once a state has another label")
}

// Machines of the same links, edges and labels are apart from each other, and from those with others.
func TestP1701Apart(t *testing.T) {
	n, x := linked(3, 0, 1), linked(5, 0, 4, 4, 2)
	n.Accept, x.Accept = []int{0, 2, 0}, []int{0, 0, 3, 0, 4}
	n.Edges, x.Edges = []api.Edge{edge(1, "ab", 2)}, []api.Edge{edge(4, "bc", 3)}
	one, two, other := at(t, n), at(t, n), at(t, x)
	for range 3 {
		for _, m := range []*Machine{one, two} {
			holdList(t, m.Start(), []int{0, 1}, "Start")
			holdList(t, m.Run([]byte("a")), []int{2}, "Run")
			holdList(t, m.Closure([]int{4, 0, 3}), []int{0, 1}, "Closure")
			holdList(t, m.Labels([]int{1, 2, 4}), []int{2}, "Labels")
		}
		holdList(t, other.Start(), []int{0, 2, 4}, "Start")
		holdList(t, other.Run([]byte("a")), nil, "Run")
		holdList(t, other.Closure([]int{4, 5, 3}), []int{2, 3, 4}, "Closure")
		holdList(t, other.Labels([]int{1, 2, 4}), []int{3, 4}, "Labels")
	}
	if asked(one, 5) == asked(other, 5) {
		t.Error("two machines tell the same")
	}
}

package sample

import (
	"slices"
	"testing"

	"doublet/api"
	"doublet/nfa"
	"doublet/sets"
)

func TestMachinesThatMayBe(t *testing.T) {
	for _, states := range []int{1, 2, 3, 64, 65, 65536} {
		if n := Bare(states); !nfa.Right(n) || n.States != states || len(n.Links)+len(n.Edges) > 0 {
			t.Errorf("Bare(%d) has %d states, %d links and %d edges", states, n.States, len(n.Links), len(n.Edges))
		}
		if n := Full(states); !nfa.Right(n) || n.States != states || len(n.Links) == 0 || len(n.Edges) == 0 || slices.Max(n.Accept) == 0 {
			t.Errorf("Full(%d) has %d states, %d links and %d edges", states, n.States, len(n.Links), len(n.Edges))
		}
		for _, state := range Outside(states) {
			if state >= 0 && state < states {
				t.Errorf("outside of %d states is %d", states, state)
			}
		}
	}
	if nfa.Right(Bare(0)) || nfa.Right(Bare(65537)) {
		t.Error("machines of too few states, or too many, may be")
	}
}

func TestLinkedAndEdge(t *testing.T) {
	want := api.Nfa{States: 3, Links: []api.Link{{From: 0, To: 2}, {From: 2, To: 2}}, Accept: []int{0, 0, 0}}
	if n := Linked(3, 0, 2, 2, 2); !nfa.Same(n, want) {
		t.Errorf("Linked is %v", n)
	}
	if n := Linked(5); !nfa.Same(n, Bare(5)) {
		t.Errorf("Linked without links is %v", n)
	}
	if e := Edge(4, "a\xff", 1); e != (api.Edge{From: 4, Set: sets.Of('a', 255), To: 1}) {
		t.Errorf("Edge is %v", e)
	}
	if e := Edge(0, "", 2); e != (api.Edge{To: 2}) {
		t.Errorf("Edge by no byte is %v", e)
	}
}

func TestAnySet(t *testing.T) {
	next := Chances()
	met := [257]int{}
	for range 2000 {
		met[sets.Count(AnySet(next))]++
	}
	if min(met[0], met[1], met[2], met[255], met[256]) < 50 {
		t.Errorf("so often sets have so many bytes: %v", met)
	}
}

func TestAnyMachine(t *testing.T) {
	next := Chances()
	links, edges, labels, starts := 0, 0, 0, 0
	for i := range 2000 {
		n := AnyMachine(1+i%30, next)
		if !nfa.Right(n) || n.States != 1+i%30 {
			t.Errorf("AnyMachine of %d states has %d, from %d", 1+i%30, n.States, n.Start)
		}
		links, edges, starts = links+len(n.Links), edges+len(n.Edges), starts+n.Start
		for _, label := range n.Accept {
			labels += label
		}
	}
	if min(links, edges, labels, starts) < 10000 {
		t.Errorf("there are only %d links, %d edges, %d sums of labels, %d of starts", links, edges, labels, starts)
	}
}

// Each number of a machine is told, in order, and is its own.
func TestNumbers(t *testing.T) {
	n := api.Nfa{States: 1, Start: 2, Links: []api.Link{{From: 3, To: 4}, {From: 5, To: 6}}, Edges: []api.Edge{{From: 7, To: 8}}, Accept: []int{9, 10}}
	for i, number := range Numbers(&n) {
		if *number != i+1 {
			t.Errorf("at %d stands %d", i, *number)
		}
		*number = 100
	}
	if n.States+n.Start+n.Links[0].From+n.Links[0].To+n.Links[1].From+n.Links[1].To+n.Edges[0].From+n.Edges[0].To+n.Accept[0]+n.Accept[1] != 1000 {
		t.Errorf("not each number is told: %v", n)
	}
}

// Each place of several machines has a fault; and no fault is lost on the way.
func TestWrongMachines(t *testing.T) {
	met := map[string]int{}
	for n := range WrongMachines() {
		if nfa.Right(n) {
			t.Errorf("a machine of %d states from %d, with %d links, %d edges and %d labels, may be", n.States, n.Start, len(n.Links), len(n.Edges), len(n.Accept))
		}
		is := func(state int) bool { return 0 <= state && state < n.States }
		switch {
		case n.States < 1:
			met["no states"]++
		case n.States > api.MaxNfa:
			met["too many states"]++
		case len(n.Accept) < n.States:
			met["too few labels"]++
		case len(n.Accept) > n.States:
			met["too many labels"]++
		case !is(n.Start):
			met["start"]++
		case slices.ContainsFunc(n.Links, func(l api.Link) bool { return !is(l.From) }):
			met["link from"]++
		case slices.ContainsFunc(n.Links, func(l api.Link) bool { return !is(l.To) }):
			met["link to"]++
		case slices.ContainsFunc(n.Edges, func(l api.Edge) bool { return !is(l.From) }):
			met["edge from"]++
		case slices.ContainsFunc(n.Edges, func(l api.Edge) bool { return !is(l.To) }):
			met["edge to"]++
		case slices.Min(n.Accept) < 0:
			met["label below 0"]++
		case slices.Max(n.Accept) > api.MaxRules:
			met["label above most"]++
		}
	}
	for _, fault := range []string{"no states", "too many states", "too few labels", "too many labels", "start", "link from", "link to", "edge from", "edge to", "label below 0", "label above most"} {
		if met[fault] < 8 {
			t.Errorf("so often each fault is met: %v", met)
		}
	}
	// Whoever stops is told no more.
	for stop := 1; stop < 200; stop += 11 {
		at := 0
		for range WrongMachines() {
			if at++; at == stop {
				break
			}
		}
	}
}

func TestMachineMemory(t *testing.T) {
	n := Full(3)
	x := RoomyMachine(n)
	if !nfa.Same(x, n) || nfa.Same(Stretched(x), n) || !nfa.Same(Stretched(x), Stretched(RoomyMachine(n))) {
		t.Errorf("RoomyMachine is %v", x)
	}
	kept := Stretched(RoomyMachine(n))
	for i := range len(Numbers(&kept)) {
		y := RoomyMachine(n)
		stretched := Stretched(y)
		*Numbers(&stretched)[i] += 50
		// States and Start are no lists' elements.
		if nfa.Same(Stretched(y), kept) != (i < 2) {
			t.Errorf("Stretched does not tell the number %d", i)
		}
	}
	ScribbleMachine(x)
	y := Stretched(x)
	for _, number := range Numbers(&y)[2:] {
		if *number < 77 {
			t.Errorf("ScribbleMachine leaves %v", y)
		}
	}
	if nfa.Same(x, n) || !nfa.Same(n, Full(3)) {
		t.Errorf("ScribbleMachine leaves %v, and %v", x, n)
	}
}

func TestSomeTrees(t *testing.T) {
	next := Chances()
	met := [8]int{}
	var l []api.Node
	for range 1000 {
		some := SomeTrees(8, next)
		met[len(some)]++
		l = append(l, some...)
	}
	if slices.Min(met[:]) < 50 {
		t.Errorf("so often there are so many trees: %v", met)
	}
	holdKinds(t, "SomeTrees", 50, l)
}

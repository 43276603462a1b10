package nfa

import (
	"slices"
	"testing"

	"doublet/api"
	"doublet/sample"
	"doublet/sets"
)

// holdRight: may a machine be?
func holdRight(t *testing.T, what string, n api.Nfa, want bool) {
	t.Helper()
	if got := Right(n); got != want {
		t.Errorf("Right is %t of a machine with %s: %s", got, what, front(shown(n)))
	}
}

// counts: numbers of states that are looked at one by one.
func counts() []int { return []int{1, 2, 3, 7, 64, 65, 1000, 65535, 65536} }

func TestP1604RightStates(t *testing.T) {
	holdRight(t, "nothing", api.Nfa{}, false)
	holdRight(t, "empty lists alone", api.Nfa{Links: []api.Link{}, Edges: []api.Edge{}, Accept: []int{}}, false)
	for _, states := range counts() {
		holdRight(t, "states alone", bare(states), true)
		holdRight(t, "states, links and edges", full(states), true)
	}
	for _, states := range []int{65537, 65538, 65600, 131072, 1 << 20} {
		holdRight(t, "too many states", bare(states), false)
		holdRight(t, "too many states, and links", full(states), false)
	}
	// Labels there cannot be as many as these.
	for _, states := range []int{least, -65536, -2, -1, 0, 1 << 40, greatest} {
		for _, labels := range []int{0, 1, 2, 65536} {
			holdRight(t, "no number of states", api.Nfa{States: states, Accept: make([]int, labels)}, false)
			holdRight(t, "no number of states, and a start", api.Nfa{States: states, Start: states - 1, Accept: make([]int, labels)}, false)
		}
	}
}

func TestP1604RightStart(t *testing.T) {
	for _, states := range counts() {
		for _, n := range []api.Nfa{bare(states), full(states)} {
			for _, state := range []int{0, states / 2, states - 1} {
				n.Start = state
				holdRight(t, "a start that is a state", n, true)
			}
			for _, state := range outsides(states) {
				n.Start = state
				holdRight(t, "a start that is none", n, false)
			}
		}
	}
}

func TestP1604RightLinksAndEdges(t *testing.T) {
	for _, states := range counts() {
		n := full(states)
		for _, at := range []int{0, len(n.Links) / 2, len(n.Links) - 1} {
			link := &n.Links[at]
			for _, end := range []*int{&link.From, &link.To} {
				holdEnd(t, "a link", n, end)
			}
		}
		for _, at := range []int{0, len(n.Edges) / 2, len(n.Edges) - 1} {
			edge := &n.Edges[at]
			for _, end := range []*int{&edge.From, &edge.To} {
				holdEnd(t, "an edge", n, end)
			}
			// Whatever the Set is.
			for _, s := range []api.Set{{}, sets.All(), {1, 2, 3, 4}} {
				edge.Set = s
				holdRight(t, "an edge by any set", n, true)
			}
		}
		// One alone.
		for _, place := range []int{0, states - 1} {
			n = bare(states)
			n.Links = []api.Link{{From: place, To: states - 1 - place}}
			holdEnd(t, "one link", n, &n.Links[0].From)
			holdEnd(t, "one link", n, &n.Links[0].To)
			n.Links = nil
			n.Edges = []api.Edge{{From: place, Set: sets.Of('a'), To: states - 1 - place}}
			holdEnd(t, "one edge", n, &n.Edges[0].From)
			holdEnd(t, "one edge", n, &n.Edges[0].To)
		}
	}
}

// holdEnd: an end of a link or an edge of a machine is a state, or the machine may not be.
func holdEnd(t *testing.T, what string, n api.Nfa, end *int) {
	t.Helper()
	kept := *end
	for _, state := range []int{0, n.States / 2, n.States - 1} {
		*end = state
		holdRight(t, what+" between states", n, true)
	}
	for _, state := range outsides(n.States) {
		*end = state
		holdRight(t, what+" to or from no state", n, false)
	}
	*end = kept
	holdRight(t, what+" between states", n, true)
}

func TestP1604RightLabels(t *testing.T) {
	for _, states := range counts() {
		for _, n := range []api.Nfa{bare(states), full(states)} {
			labels := n.Accept
			for _, some := range []int{0, states - 1, states + 1, 2 * states, states + 100} {
				n.Accept = make([]int, some)
				holdRight(t, "more labels or fewer", n, false)
			}
			n.Accept = nil
			holdRight(t, "no labels at all", n, false)
			for _, place := range []int{0, states / 2, states - 1} {
				n.Accept = slices.Clone(labels)
				for _, label := range []int{0, 1, 2, 63, 64} {
					n.Accept[place] = label
					holdRight(t, "a label", n, true)
				}
				for _, label := range []int{65, 66, 128, -1, -2, -64, least, greatest, 1 << 32} {
					n.Accept[place] = label
					holdRight(t, "a wrong label", n, false)
				}
			}
			// All states may have one label.
			for place := range n.Accept {
				n.Accept[place] = 64
			}
			holdRight(t, "one label on all states", n, true)
		}
	}
}

// Random machines with whatever numbers at one place, and at several ones.
func TestP1604RightWhatever(t *testing.T) {
	next := sample.Chances()
	met := map[bool]int{}
	for range 30000 {
		n := sample.AnyMachine(1+next(30), next)
		holdRight(t, "right numbers", n, true)
		// Neither a state, nor a label, nor how many labels there are.
		wrong := []int{least, -65536, -2, -1, 65, 66, 1000, 65536, 65537, 1 << 40, greatest}
		l := numbersOf(&n)
		times := next(3)
		for range times {
			*l[next(len(l))] = wrong[next(len(wrong))]
		}
		holdRight(t, "numbers that may be wrong", n, times == 0)
		met[times == 0]++
	}
	if min(met[true], met[false]) < 5000 {
		t.Errorf("so often a machine may be, and may not: %v", met)
	}
	for range 3000 {
		n := sample.AnyMachine(1+next(30), next)
		most := n.States
		for _, number := range numbersOf(&n)[1:] {
			*number = next(most+2) - next(2)
		}
		holdRight(t, "whatever numbers", n, isRight(n))
	}
}

// isRight: the chapter's questions, one by one.
func isRight(n api.Nfa) bool {
	var states, labels []int
	for state := range n.States {
		states = append(states, state)
	}
	for label := range 65 {
		labels = append(labels, label)
	}
	ends := []int{n.Start}
	for _, link := range n.Links {
		ends = append(ends, link.From, link.To)
	}
	for _, edge := range n.Edges {
		ends = append(ends, edge.From, edge.To)
	}
	none := func(l []int) func(int) bool { return func(n int) bool { return !slices.Contains(l, n) } }
	return len(states) > 0 && len(states) <= 65536 && !slices.ContainsFunc(ends, none(states)) && len(n.Accept) == len(states) && !slices.ContainsFunc(n.Accept, none(labels))
}

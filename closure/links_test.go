package closure

import (
	"slices"
	"testing"

	"doublet/api"
	"doublet/sample"
)

// Links between six states, and lists of these, with what Closure tells of them.
func TestP1702Closure(t *testing.T) {
	for _, r := range []struct {
		links, l, want []int
	}{
		// Without links.
		{nil, nil, nil}, {nil, []int{0}, []int{0}}, {nil, []int{5}, []int{5}}, {nil, []int{4, 1, 3}, []int{1, 3, 4}}, {nil, upTo(0, 6), upTo(0, 6)},
		// One link, followed from where it begins alone.
		{[]int{1, 3}, nil, nil}, {[]int{1, 3}, []int{0}, []int{0}}, {[]int{1, 3}, []int{1}, []int{1, 3}}, {[]int{1, 3}, []int{3}, []int{3}}, {[]int{3, 1}, []int{3}, []int{1, 3}}, {[]int{0, 5}, []int{0}, []int{0, 5}}, {[]int{5, 0}, []int{5}, []int{0, 5}}, {[]int{1, 3}, []int{3, 1, 0}, []int{0, 1, 3}},
		// In a row, whichever way it goes.
		{[]int{0, 1, 1, 2, 2, 3, 3, 4, 4, 5}, []int{0}, upTo(0, 6)}, {[]int{0, 1, 1, 2, 2, 3, 3, 4, 4, 5}, []int{3}, upTo(3, 6)}, {[]int{0, 1, 1, 2, 2, 3, 3, 4, 4, 5}, []int{5}, []int{5}}, {[]int{4, 5, 3, 4, 2, 3, 1, 2, 0, 1}, []int{0}, upTo(0, 6)},
		{[]int{5, 4, 4, 3, 3, 2, 2, 1, 1, 0}, []int{5}, upTo(0, 6)}, {[]int{5, 4, 4, 3, 3, 2, 2, 1, 1, 0}, []int{2}, upTo(0, 3)}, {[]int{3, 0, 0, 5, 5, 1}, []int{3}, []int{0, 1, 3, 5}}, {[]int{3, 0, 0, 5, 5, 1}, []int{5, 2}, []int{1, 2, 5}},
		// In a ring, and in two.
		{[]int{1, 2, 2, 3, 3, 1}, []int{1}, []int{1, 2, 3}}, {[]int{1, 2, 2, 3, 3, 1}, []int{3}, []int{1, 2, 3}}, {[]int{1, 2, 2, 3, 3, 1}, []int{0, 2}, []int{0, 1, 2, 3}}, {[]int{1, 2, 2, 1}, []int{1}, []int{1, 2}}, {[]int{0, 1, 1, 0, 3, 4, 4, 3}, []int{4}, []int{3, 4}}, {[]int{0, 1, 1, 0, 3, 4, 4, 3, 1, 3}, []int{0}, []int{0, 1, 3, 4}}, {[]int{0, 1, 1, 0, 3, 4, 4, 3, 1, 3}, []int{3}, []int{3, 4}},
		// From a state to itself.
		{[]int{2, 2}, []int{2}, []int{2}}, {[]int{2, 2}, []int{1}, []int{1}}, {[]int{2, 2, 2, 4}, []int{2}, []int{2, 4}}, {[]int{2, 4, 2, 2, 4, 4}, []int{2}, []int{2, 4}}, {[]int{0, 0, 5, 5}, []int{0, 5}, []int{0, 5}},
		// From one to many, from many to one.
		{[]int{2, 0, 2, 5, 2, 3}, []int{2}, []int{0, 2, 3, 5}}, {[]int{2, 0, 2, 5, 2, 3}, []int{0}, []int{0}}, {[]int{2, 0, 2, 5, 5, 3, 5, 1}, []int{2}, []int{0, 1, 2, 3, 5}}, {[]int{0, 4, 1, 4, 5, 4}, []int{1}, []int{1, 4}}, {[]int{0, 4, 1, 4, 5, 4}, []int{5, 0}, []int{0, 4, 5}}, {[]int{0, 4, 1, 4, 4, 2}, []int{0, 1}, []int{0, 1, 2, 4}},
		// By two ways to one state, which leads on.
		{[]int{0, 1, 0, 2, 1, 3, 2, 3, 3, 4}, []int{0}, upTo(0, 5)}, {[]int{0, 1, 0, 2, 1, 3, 2, 3, 3, 4}, []int{2}, []int{2, 3, 4}},
		// The same link again, next to itself and not.
		{[]int{1, 3, 1, 3}, []int{1}, []int{1, 3}}, {[]int{1, 3, 1, 4, 1, 3}, []int{1}, []int{1, 3, 4}}, {[]int{1, 3, 3, 5, 1, 3, 3, 5}, []int{1}, []int{1, 3, 5}}, {[]int{1, 3, 2, 3, 1, 3, 2, 3}, []int{2}, []int{2, 3}}, {[]int{1, 0, 1, 0, 1, 2}, []int{1}, []int{0, 1, 2}}, {[]int{1, 3, 2, 3, 1, 4}, []int{1, 2}, []int{1, 2, 3, 4}}, {[]int{0, 0, 0, 1, 0, 0}, []int{0}, []int{0, 1}},
		// States that are handed in twice, also such as others lead to.
		{nil, []int{2, 2}, []int{2}}, {nil, []int{3, 1, 3, 1, 1}, []int{1, 3}}, {[]int{1, 3}, []int{1, 1}, []int{1, 3}}, {[]int{1, 3}, []int{3, 1, 3}, []int{1, 3}}, {[]int{1, 3, 3, 2}, []int{3, 3, 1, 1}, []int{1, 2, 3}}, {[]int{1, 3, 3, 2}, []int{1, 3, 2, 1, 3, 2}, []int{1, 2, 3}},
	} {
		m := at(t, linked(6, r.links...))
		holdList(t, m.Closure(r.l), r.want, "by links %v Closure(%v)", r.links, r.l)
		slices.Reverse(r.l)
		holdList(t, m.Closure(r.l), r.want, "by links %v Closure(%v)", r.links, r.l)
	}
}

// Numbers that are no states are passed over, alone and among others.
func TestP1701ClosureOfNoStates(t *testing.T) {
	for _, states := range []int{1, 2, 6, 63, 64, 65, 128, 1000, 65536} {
		n := linked(states, 0, states-1, states-1, states/2)
		m := at(t, n)
		want := union([]int{0, states - 1, states / 2})
		holdList(t, m.Closure(outsides(states)), nil, "Closure of no states")
		for _, wrong := range outsides(states) {
			holdList(t, m.Closure([]int{wrong}), nil, "of %d states Closure(%d)", states, wrong)
			for _, l := range [][]int{{wrong, 0}, {0, wrong}, {wrong, wrong, 0, wrong, 0}, {states - 1, wrong, 0}} {
				holdList(t, m.Closure(l), want, "of %d states Closure(%v)", states, l)
			}
			holdList(t, m.Closure([]int{states / 2, wrong}), m.Closure([]int{states / 2}), "of %d states Closure of one, and %d", states, wrong)
		}
	}
	// A link from the last state, and one to it, are not taken for others.
	m := at(t, linked(3, 2, 1, 0, 2))
	holdList(t, m.Closure([]int{-1, 3, -3}), nil, "Closure")
	holdList(t, m.Closure([]int{1, 3}), []int{1}, "Closure")
}

// The order of the links, and of the list, says nothing, nor how often each of them comes.
func TestP1702ClosureInAnyOrder(t *testing.T) {
	next := sample.Chances()
	for range 1000 {
		n := sample.AnyMachine(1+next(30), next)
		l := anyList(n.States, next)
		want := at(t, n).Closure(l)
		x := n
		x.Links = sample.Shuffled(append(slices.Clone(n.Links), n.Links[:len(n.Links)/2]...), next)
		m := at(t, x)
		holdList(t, m.Closure(l), want, "of %s Closure(%v)", front(shown(x)), l)
		holdList(t, m.Closure(sample.Shuffled(append(l, l...), next)), want, "of %s Closure(%v, twice)", front(shown(x)), l)
		slices.Reverse(x.Links)
		holdList(t, at(t, x).Closure(l), want, "of %s Closure(%v)", front(shown(x)), l)
		// Edges and labels say nothing, either.
		x.Edges, x.Accept, x.Start = nil, make([]int, n.States), 0
		holdList(t, at(t, x).Closure(l), want, "of %s Closure(%v)", front(shown(x)), l)
	}
}

// All sets of links between three states, and all lists of some of these.
func TestP1702ClosureOfAllSmallMachines(t *testing.T) {
	for some := range 1 << 9 {
		n := bare(3)
		for i := range 9 {
			if some>>i&1 == 1 {
				n.Links = append(n.Links, api.Link{From: i / 3, To: i % 3})
			}
		}
		m, x := at(t, n), model{n}
		for start := range 3 {
			n.Start = start
			holdList(t, at(t, n).Start(), x.closure([]int{start}), "of %s Start", shown(n))
		}
		for _, l := range [][]int{nil, {0}, {1}, {2}, {1, 0}, {2, 0}, {1, 2}, {2, 0, 1}, {0, 3}, {-1, 2}} {
			holdList(t, m.Closure(l), x.closure(l), "of %s Closure(%v)", shown(n), l)
		}
	}
}

func TestP1702Start(t *testing.T) {
	for _, r := range []struct {
		start       int
		links, want []int
	}{
		{0, nil, []int{0}}, {3, nil, []int{3}}, {5, nil, []int{5}},
		{0, []int{0, 4, 4, 2}, []int{0, 2, 4}}, {3, []int{0, 4, 4, 2}, []int{3}}, {4, []int{0, 4, 4, 2}, []int{2, 4}}, {2, []int{0, 4, 4, 2}, []int{2}},
		{5, []int{5, 5}, []int{5}}, {5, []int{5, 0, 0, 5}, []int{0, 5}}, {1, []int{1, 0, 1, 5, 5, 3, 2, 4}, []int{0, 1, 3, 5}},
	} {
		n := linked(6, r.links...)
		n.Start = r.start
		// No byte is needed for a start, and none leads on from it.
		n.Edges = []api.Edge{edge(r.start, "a", 1), edge(0, "", 1)}
		m := at(t, n)
		holdList(t, m.Start(), r.want, "from %d, by links %v, Start", r.start, r.links)
		holdList(t, m.Closure([]int{r.start}), r.want, "by links %v Closure(%d)", r.links, r.start)
		holdList(t, m.Run(nil), r.want, "from %d, by links %v, Run of the empty word", r.start, r.links)
	}
}

package mirror

import (
	"slices"
	"testing"

	"doublet/api"
	"doublet/nfa"
	"doublet/sample"
	"doublet/sets"
)

// machine: one of as many states as there are labels.
func machine(start int, labels []int, links []api.Link, edges ...api.Edge) api.Nfa {
	return api.Nfa{States: len(labels), Start: start, Links: links, Edges: edges, Accept: labels}
}

// links: from one state to another one, two by two.
func links(ends ...int) []api.Link { return linked(0, ends...).Links }

// All of what Nfa makes: the states, the start, links, edges and labels.
func TestP1803Nfa(t *testing.T) {
	// One of trees: of ab and c*.
	n := machine(0, []int{0, 0, 0, 1, 0, 0, 2}, links(2, 3, 0, 4, 5, 4, 4, 6), edge(0, "a", 1), edge(1, "b", 2), edge(4, "c", 5))
	if x, wrong := nfa.Of([]api.Node{read("ab"), read("c*")}); wrong != api.OK || !nfa.Same(x, n) {
		t.Fatalf("the machine of ab and c* is %s", shown(x))
	}
	edges := []api.Edge{edge(1, "a", 0), edge(2, "b", 1), edge(5, "c", 4)}
	holdNfa(t, n, 1, machine(7, []int{1, 0, 0, 0, 0, 0, 0, 0}, links(3, 2, 4, 0, 4, 5, 6, 4, 7, 3), edges...))
	holdNfa(t, n, 2, machine(7, []int{1, 0, 0, 0, 0, 0, 0, 0}, links(3, 2, 4, 0, 4, 5, 6, 4, 7, 6), edges...))
	holdNfa(t, n, 3, machine(7, []int{1, 0, 0, 0, 0, 0, 0, 0}, links(3, 2, 4, 0, 4, 5, 6, 4), edges...))

	// One such as no tree makes: several states with one label, the start among them.
	n = machine(2, []int{5, 0, 5, 3, 64, 5}, links(5, 0, 1, 2, 0, 5), edge(3, "ab", 1), edge(2, "", 0), edge(5, "\x00\xff", 4))
	edges = []api.Edge{edge(1, "ab", 3), edge(0, "", 2), edge(4, "\x00\xff", 5)}
	labels := []int{0, 0, 1, 0, 0, 0, 0}
	holdNfa(t, n, 5, machine(6, labels, links(0, 5, 2, 1, 5, 0, 6, 0, 6, 2, 6, 5), edges...))
	holdNfa(t, n, 3, machine(6, labels, links(0, 5, 2, 1, 5, 0, 6, 3), edges...))
	holdNfa(t, n, 64, machine(6, labels, links(0, 5, 2, 1, 5, 0, 6, 4), edges...))
	holdNfa(t, n, 1, machine(6, labels, links(0, 5, 2, 1, 5, 0), edges...))
	holdNfa(t, n, 63, machine(6, labels, links(0, 5, 2, 1, 5, 0), edges...))
}

// Links and edges stay in their order, whatever it is, each as often as it comes; what leads from a state to itself does so.
func TestP1803NfaOrder(t *testing.T) {
	n := machine(1, []int{0, 0, 7}, links(2, 1, 0, 1, 2, 1, 1, 1, 1, 0, 2, 1, 0, 0), edge(2, "z", 0), edge(0, "a", 2), edge(2, "z", 0), edge(1, "b", 1), edge(0, "a", 2), edge(0, "", 2), edge(2, "a", 0))
	holdNfa(t, n, 7, machine(3, []int{0, 1, 0, 0}, links(1, 2, 1, 0, 1, 2, 1, 1, 0, 1, 1, 2, 0, 0, 3, 2), edge(0, "z", 2), edge(2, "a", 0), edge(0, "z", 2), edge(1, "b", 1), edge(2, "a", 0), edge(2, "", 0), edge(0, "a", 2)))
	slices.Reverse(n.Links)
	slices.Reverse(n.Edges)
	holdNfa(t, n, 7, machine(3, []int{0, 1, 0, 0}, links(0, 0, 1, 2, 0, 1, 1, 1, 1, 2, 1, 0, 1, 2, 3, 2), edge(0, "a", 2), edge(2, "", 0), edge(2, "a", 0), edge(1, "b", 1), edge(0, "z", 2), edge(2, "a", 0), edge(0, "z", 2)))
}

// No state has the label, one, several, and all; wherever they are, they come rising.
func TestP1803NfaLabels(t *testing.T) {
	for _, r := range []struct {
		labels []int
		want   []api.Link
	}{
		{[]int{0, 0, 0, 0}, nil}, {[]int{1, 3, 64, 63}, nil},
		{[]int{2, 0, 0, 0}, links(4, 0)}, {[]int{0, 2, 0, 0}, links(4, 1)}, {[]int{1, 1, 1, 2}, links(4, 3)},
		{[]int{2, 0, 0, 2}, links(4, 0, 4, 3)}, {[]int{1, 2, 2, 3}, links(4, 1, 4, 2)}, {[]int{2, 2, 2, 2}, links(4, 0, 4, 1, 4, 2, 4, 3)},
	} {
		for start := range 4 {
			want := make([]int, 5)
			want[start] = 1
			holdNfa(t, machine(start, r.labels, nil), 2, machine(4, want, r.want))
			holdNfa(t, machine(start, r.labels, links(3, 1), edge(1, "a", 3)), 2, machine(4, want, append(links(1, 3), r.want...), edge(3, "a", 1)))
		}
	}
	// Each label that there may be finds its own state, and none else.
	n := bare(64)
	for state := range 64 {
		n.Accept[state] = 1 + (state+20)%64
	}
	for label := 1; label <= 64; label++ {
		m := turned(t, n, label)
		if want := links(64, (label+43)%64); !slices.Equal(m.Links, want) {
			t.Errorf("for %d the links are %v, want %v", label, m.Links, want)
		}
	}
}

// Machines of one state, without links, and without edges.
func TestP1803NfaOfFew(t *testing.T) {
	holdNfa(t, bare(1), 1, machine(1, []int{1, 0}, nil))
	holdNfa(t, machine(0, []int{1}, nil), 1, machine(1, []int{1, 0}, links(1, 0)))
	holdNfa(t, machine(0, []int{1}, nil), 2, machine(1, []int{1, 0}, nil))
	holdNfa(t, machine(0, []int{64}, links(0, 0, 0, 0), edge(0, "a", 0)), 64, machine(1, []int{1, 0}, links(0, 0, 0, 0, 1, 0), edge(0, "a", 0)))
	holdNfa(t, machine(1, []int{0, 4}, links(0, 1)), 4, machine(2, []int{0, 1, 0}, links(1, 0, 2, 1)))
	holdNfa(t, machine(1, []int{4, 0}, nil, edge(1, "xy", 0)), 4, machine(2, []int{0, 1, 0}, links(2, 0), edge(0, "xy", 1)))
}

// Sets of edges are as they were.
func TestP1803NfaSets(t *testing.T) {
	for _, s := range []api.Set{{}, sets.All(), sets.Of(0), sets.Of(63, 64), sets.Of(127, 128), sets.Of(191, 192, 255), {1, 2, 3, 4}} {
		holdNfa(t, machine(0, []int{0, 1}, nil, api.Edge{From: 0, Set: s, To: 1}), 1, machine(2, []int{1, 0, 0}, links(2, 1), api.Edge{From: 1, Set: s, To: 0}))
	}
}

// What is made may be turned round as well: for 1 it tells what was told of the label.
func TestP1803NfaTwice(t *testing.T) {
	n := machine(0, []int{0, 3, 0}, links(0, 2), edge(0, "a", 1), edge(1, "b", 2))
	m := turned(t, n, 3)
	holdNfa(t, n, 3, machine(3, []int{1, 0, 0, 0}, links(2, 0, 3, 1), edge(1, "a", 0), edge(2, "b", 1)))
	holdNfa(t, m, 1, machine(4, []int{0, 0, 0, 1, 0}, links(0, 2, 1, 3, 4, 0), edge(0, "a", 1), edge(1, "b", 2)))
	holdNfa(t, m, 3, machine(4, []int{0, 0, 0, 1, 0}, links(0, 2, 1, 3), edge(0, "a", 1), edge(1, "b", 2)))
}

// Each fault there may be; no label is asked about then.
func TestP1803ErrKind(t *testing.T) {
	t.Parallel()
	for n := range sample.WrongMachines() {
		for _, label := range []int{1, 0, 65} {
			holdWrong(t, n, label, api.ErrKind)
		}
		if t.Failed() {
			return
		}
	}
}

// Labels about those that there may be.
func TestP1803ErrRange(t *testing.T) {
	for _, n := range []api.Nfa{bare(1), bare(2), sample.Full(1), sample.Full(3), sample.Full(64), bare(65535), sample.Full(65535)} {
		for _, label := range []int{0, -1, -2, -63, -64, -65, 65, 66, 128, 255, 256, 1 << 16, 1<<16 + 1, 1 << 32, 1<<32 + 1, -1 << 32, 1<<63 - 64, greatest, greatest - 1, least, least + 1} {
			holdWrong(t, n, label, api.ErrRange)
		}
		for label := 1; label <= 64; label++ {
			if m, wrong := Nfa(n, label); wrong != api.OK || m.States != n.States+1 {
				t.Errorf("Nfa of %d states for %d tells %d, and %d states", n.States, label, wrong, m.States)
			}
		}
	}
}

// As many states as there may be, and one less: no room is left, or just enough.
func TestP1803ErrBig(t *testing.T) {
	for _, n := range []api.Nfa{bare(65536), sample.Full(65536), machine(65535, slices.Repeat([]int{3}, 65536), links(0, 65535))} {
		for _, label := range []int{1, 3, 64} {
			holdWrong(t, n, label, api.ErrBig)
		}
		// No label is asked about then.
		for _, label := range []int{0, -1, 65, least, greatest} {
			holdWrong(t, n, label, api.ErrBig)
		}
	}
	for _, n := range []api.Nfa{bare(65535), sample.Full(65535), machine(65534, slices.Repeat([]int{3}, 65535), links(0, 65534))} {
		for _, label := range []int{1, 3, 64} {
			holdModelled(t, n, label)
		}
		if m := turned(t, n, 3); m.States != 65536 || m.Start != 65535 || len(m.Accept) != 65536 || !nfa.Right(m) {
			t.Errorf("of 65535 states Nfa makes %d, from %d, with %d labels", m.States, m.Start, len(m.Accept))
		}
		holdWrong(t, turned(t, n, 3), 1, api.ErrBig)
		holdWrong(t, turned(t, n, 3), 65, api.ErrBig)
	}
}

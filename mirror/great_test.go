package mirror

import (
	"slices"
	"testing"

	"doublet/api"
	"doublet/nfa"
	"doublet/sample"
	"doublet/texts"
)

// Machines of as many states as may be turned round, with very many links and edges.
func TestP1803GreatMachines(t *testing.T) {
	t.Parallel()
	const most = 65535
	n := bare(most)
	n.Start = 40000
	for i := range 1 << 22 {
		n.Links = append(n.Links, api.Link{From: i % most, To: i * 7 % most})
		n.Edges = append(n.Edges, api.Edge{From: i * 5 % most, Set: api.Set{uint64(i)}, To: i % 1000})
	}
	for i := range n.Accept {
		n.Accept[i] = i % 65
	}
	for _, label := range []int{1, 64} {
		m := turned(t, n, label)
		if m.States != most+1 || m.Start != most || len(m.Edges) != len(n.Edges) || len(m.Accept) != most+1 {
			t.Fatalf("Nfa makes %d states from %d, %d edges, %d labels", m.States, m.Start, len(m.Edges), len(m.Accept))
		}
		for i, l := range n.Links {
			if m.Links[i] != (api.Link{From: l.To, To: l.From}) {
				t.Fatalf("the link %d is %v, and was %v", i, m.Links[i], l)
			}
		}
		for i, l := range n.Edges {
			if m.Edges[i] != (api.Edge{From: l.To, Set: l.Set, To: l.From}) {
				t.Fatalf("the edge %d is %v, and was %v", i, m.Edges[i], l)
			}
		}
		var want []api.Link
		for state := label; state < most; state += 65 {
			want = append(want, api.Link{From: most, To: state})
		}
		if !slices.Equal(m.Links[len(n.Links):], want) {
			t.Errorf("for %d the links from the start are %s", label, front(texts.Links(m.Links[len(n.Links):])))
		}
		if m.Accept[40000] != 1 || slices.Index(m.Accept, 1) != 40000 || slices.Max(m.Accept) != 1 || slices.Contains(m.Accept[40001:], 1) {
			t.Error("another state than the old start has a label")
		}
	}
}

// All states have the label.
func TestP1803GreatLabels(t *testing.T) {
	t.Parallel()
	for _, states := range []int{1, 2, 63, 64, 65, 1000, 65534, 65535} {
		n := bare(states)
		n.Start, n.Accept = states-1, slices.Repeat([]int{9}, states)
		m := turned(t, n, 9)
		if len(m.Links) != states || m.Links[0] != (api.Link{From: states, To: 0}) || m.Links[states-1] != (api.Link{From: states, To: states - 1}) {
			t.Errorf("of %d states, which all have the label, are %d links", states, len(m.Links))
		}
		holdModelled(t, n, 9)
		holdModelled(t, n, 8)
	}
}

// Trees whose machines have very many states.
func TestP1803GreatTrees(t *testing.T) {
	t.Parallel()
	n, wrong := nfa.Of([]api.Node{sample.Exactly(60000), read("(ab)*"), sample.Beside(5, 4000, e())})
	if wrong != api.OK {
		t.Fatalf("great trees have no machine: %d", wrong)
	}
	for label := 1; label <= 4; label++ {
		holdModelled(t, n, label)
	}
	at, m := atWork(t, n), atWork(t, turned(t, n, 1))
	for length, want := range map[int]int{0: 0, 2: 0, 59999: 0, 60000: 1, 60001: 0} {
		w := slices.Repeat([]byte("a"), length)
		if (at.Tell(w) == 1) != (want == 1) || m.Tell(w) != want {
			t.Errorf("just 60000 a, and that turned round, tell %d and %d of %d a", at.Tell(w), m.Tell(w), length)
		}
	}
}

package closure

import (
	"testing"

	"doublet/api"
	"doublet/sample"
)

func TestP1703Labels(t *testing.T) {
	n := bare(8)
	n.Accept = []int{0, 3, 64, 1, 0, 3, 63, 2}
	// Neither links nor edges are gone through.
	n.Links = []api.Link{{From: 0, To: 1}, {From: 4, To: 3}}
	n.Edges = []api.Edge{edge(0, "a", 2)}
	m := at(t, n)
	for _, r := range []struct{ l, want []int }{
		{nil, nil}, {[]int{}, nil}, {[]int{0}, nil}, {[]int{4, 0}, nil}, {[]int{0, 0, 4}, nil},
		{[]int{1}, []int{3}}, {[]int{2}, []int{64}}, {[]int{3}, []int{1}}, {[]int{0, 3}, []int{1}}, {[]int{7}, []int{2}},
		// Several states of one label, and states that come twice: each label once.
		{[]int{1, 5}, []int{3}}, {[]int{5, 1, 5}, []int{3}}, {[]int{2, 2}, []int{64}}, {[]int{1, 0, 5, 4}, []int{3}},
		// In any order: rising.
		{[]int{1, 3}, []int{1, 3}}, {[]int{3, 1}, []int{1, 3}}, {[]int{2, 6, 3}, []int{1, 63, 64}}, {[]int{7, 3, 1, 2}, []int{1, 2, 3, 64}}, {[]int{6, 2, 6, 0}, []int{63, 64}},
		{upTo(0, 8), []int{1, 2, 3, 63, 64}}, {[]int{7, 6, 5, 4, 3, 2, 1, 0}, []int{1, 2, 3, 63, 64}},
		// Numbers that are no states.
		{outsides(8), nil}, {[]int{8}, nil}, {[]int{-1}, nil}, {[]int{least, greatest}, nil}, {[]int{-1, 7, 8}, []int{2}}, {append(outsides(8), 1, 3, 1), []int{1, 3}}, {[]int{8, 0, 9}, nil}, {[]int{-8, -5, -3}, nil},
	} {
		holdList(t, m.Labels(r.l), r.want, "Labels(%v)", r.l)
	}
}

// Each label there may be, of each place; and all of them.
func TestP1703EachLabel(t *testing.T) {
	for label := range 65 {
		for _, states := range []int{1, 2, 64, 65} {
			for _, place := range []int{0, states / 2, states - 1} {
				n := bare(states)
				n.Start, n.Accept[place] = place, label
				m := at(t, n)
				want := []int{label}
				if label == 0 {
					want = nil
				}
				holdList(t, m.Labels([]int{place}), want, "Labels of one state")
				holdList(t, m.Labels(upTo(-1, states+1)), want, "Labels of all states")
				if got := m.Tell(nil); got != label {
					t.Errorf("Tell is %d at the label %d", got, label)
				}
				if got := m.Tell([]byte("a")); got != 0 {
					t.Errorf("Tell is %d of no state", got)
				}
			}
		}
	}
	n := bare(100)
	for state := range n.Accept {
		n.Accept[state] = (state*37 + 11) % 65
	}
	m := at(t, n)
	holdList(t, m.Labels(upTo(0, 100)), upTo(1, 65), "Labels of states with all labels")
	holdList(t, m.Labels(upTo(0, 65)), upTo(1, 65), "Labels of states with all labels, each once")
	for state, label := range n.Accept {
		holdList(t, m.Labels([]int{state, state}), model{n}.labels([]int{state}), "Labels of the state %d with %d", state, label)
	}
}

func TestP1703Tell(t *testing.T) {
	// By a to the labels 5 and 2, the greater one ahead; by b, and by c, to none, and on to 7.
	n := linked(6, 0, 1, 4, 5)
	n.Accept = []int{9, 4, 5, 2, 0, 7}
	n.Edges = []api.Edge{edge(0, "a", 2), edge(1, "a", 3), edge(0, "b", 4), edge(1, "c", 4), edge(4, "c", 4)}
	m := at(t, n)
	for w, want := range map[string]int{"": 4, "a": 2, "b": 7, "c": 7, "cc": 7, "aa": 0, "x": 0, "ab": 0} {
		if got := m.Tell([]byte(w)); got != want {
			t.Errorf("Tell(%q) is %d, want %d", w, got, want)
		}
	}
	// No state behind the word has a label, though others do.
	n = linked(3, 0, 1)
	n.Accept = []int{0, 0, 6}
	m = at(t, n)
	for _, w := range []string{"", "a", "ab"} {
		if got := m.Tell([]byte(w)); got != 0 {
			t.Errorf("Tell(%q) is %d, want 0", w, got)
		}
	}
}

// Tell is the least of Labels of Run, of whatever machine.
func TestP1703TellIsTheLeast(t *testing.T) {
	next := sample.Chances()
	many := 0
	for range 5000 {
		n := sample.AnyMachine(1+next(15), next)
		m, w := at(t, n), []byte(sample.AnyWord(next(4), sample.Edgy, next))
		l, least := m.Labels(m.Run(w)), 0
		for _, label := range l {
			if least == 0 || label < least {
				least = label
			}
		}
		if got := m.Tell(w); got != least {
			t.Errorf("of %s Tell(%q) is %d, and the labels are %v", shown(n), w, got, l)
		}
		if len(l) > 1 {
			many++
		}
	}
	if many < 500 {
		t.Errorf("only %d words had several labels", many)
	}
}

// A nil machine answers nothing, and 0, whatever it is handed.
func TestP1701Nil(t *testing.T) {
	var m *Machine
	for _, l := range [][]int{nil, {}, {0}, {0, 0, 1}, {-1}, outsides(1), upTo(0, 100)} {
		holdList(t, m.Closure(l), nil, "of a nil machine Closure(%v)", l)
		holdList(t, m.Labels(l), nil, "of a nil machine Labels(%v)", l)
		for b := range 256 {
			holdList(t, m.Step(l, byte(b)), nil, "of a nil machine Step(%v, %d)", l, b)
		}
	}
	holdList(t, m.Start(), nil, "of a nil machine Start")
	for _, w := range []string{"", "a", "ab", "\x00\xff"} {
		holdList(t, m.Run([]byte(w)), nil, "of a nil machine Run(%q)", w)
		if got := m.Tell([]byte(w)); got != 0 {
			t.Errorf("of a nil machine Tell(%q) is %d", w, got)
		}
	}
	holdList(t, m.Run(nil), nil, "of a nil machine Run of nil")
	if got := m.Tell(nil); got != 0 {
		t.Errorf("of a nil machine Tell of nil is %d", got)
	}
}

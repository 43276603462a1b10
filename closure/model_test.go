package closure

import (
	"fmt"
	"strings"
	"testing"

	"doublet/api"
	"doublet/sample"
	"doublet/texts"
)

// model is a machine of which the chapter's sentences tell, one by one.
type model struct{ n api.Nfa }

// rising: the states that are in a set, from 0 on.
func (m model) rising(in map[int]bool) []int {
	var l []int
	for state := range m.n.States {
		if in[state] {
			l = append(l, state)
		}
	}
	return l
}

// closure: links are gone through again and again, till no state comes any more.
func (m model) closure(l []int) []int {
	in := map[int]bool{}
	for _, state := range l {
		in[state] = true
	}
	for more := true; more; {
		more = false
		for _, link := range m.n.Links {
			if in[link.From] && !in[link.To] {
				in[link.To], more = true, true
			}
		}
	}
	return m.rising(in)
}

func (m model) start() []int { return m.closure([]int{m.n.Start}) }

func (m model) step(l []int, b byte) []int {
	in := map[int]bool{}
	for _, state := range l {
		for _, edge := range m.n.Edges {
			if edge.From == state && edge.Set[b/64]>>(b%64)&1 == 1 {
				in[edge.To] = true
			}
		}
	}
	return m.closure(m.rising(in))
}

func (m model) run(w []byte) []int {
	l := m.start()
	for _, b := range w {
		l = m.step(l, b)
	}
	return l
}

func (m model) labels(l []int) []int {
	in := map[int]bool{}
	for _, state := range l {
		if state >= 0 && state < m.n.States {
			in[m.n.Accept[state]] = true
		}
	}
	var labels []int
	for label := 1; label <= 64; label++ {
		if in[label] {
			labels = append(labels, label)
		}
	}
	return labels
}

func (m model) tell(w []byte) int {
	for _, label := range m.labels(m.run(w)) {
		return label
	}
	return 0
}

// holdLists: all calls that take a list tell of one what the model does.
func holdLists(t *testing.T, m *Machine, x model, l []int, bytes string) {
	t.Helper()
	holdList(t, m.Closure(l), x.closure(l), "of %s Closure(%v)", shown(x.n), l)
	holdList(t, m.Labels(l), x.labels(l), "of %s Labels(%v)", shown(x.n), l)
	for i := range len(bytes) {
		holdList(t, m.Step(l, bytes[i]), x.step(l, bytes[i]), "of %s Step(%v, %d)", shown(x.n), l, bytes[i])
	}
}

// holdWord: all calls that take a word tell of one what the model does.
func holdWord(t *testing.T, m *Machine, x model, w string) {
	t.Helper()
	want := x.run([]byte(w))
	holdList(t, m.Run([]byte(w)), want, "of %s Run(%q)", shown(x.n), w)
	holdList(t, m.Labels(want), x.labels(want), "of %s Labels(%v)", shown(x.n), want)
	if got := m.Tell([]byte(w)); got != x.tell([]byte(w)) {
		t.Errorf("of %s Tell(%q) is %d, want %d", shown(x.n), w, got, x.tell([]byte(w)))
	}
}

// Random machines, also such as no trees make.
func TestModelled(t *testing.T) {
	t.Parallel()
	next := sample.Chances()
	somewhere, nowhere, labelled := 0, 0, 0
	for range 4000 {
		n := sample.AnyMachine(1+next(20), next)
		if next(2) == 0 {
			// With fewer bytes more words lead somewhere.
			for i := range n.Edges {
				n.Edges[i].Set = sample.Leaf("aab"[next(3)], "abb"[next(3)]).Set
			}
		}
		m, x := at(t, n), model{n}
		holdList(t, m.Start(), x.start(), "of %s Start", shown(n))
		for range 4 {
			holdLists(t, m, x, anyList(n.States, next), sample.Edgy)
			w := sample.AnyWord(next(6), []string{"ab", "ab", sample.Edgy}[next(3)], next)
			holdWord(t, m, x, w)
			switch {
			case len(m.Run([]byte(w))) == 0:
				nowhere++
			case m.Tell([]byte(w)) > 0:
				labelled++
			default:
				somewhere++
			}
		}
		if t.Failed() {
			return
		}
	}
	if min(somewhere, nowhere, labelled) < 1000 {
		t.Errorf("%d words led somewhere, %d nowhere, %d to labels", somewhere, nowhere, labelled)
	}
}

// Greater random machines, whose states take several words of bits.
func TestModelledGreat(t *testing.T) {
	t.Parallel()
	next := sample.Chances()
	longest := 0
	for _, states := range []int{63, 64, 65, 127, 128, 129, 200, 500, 1000} {
		for range 8 {
			n := sample.AnyMachine(states, next)
			m, x := at(t, n), model{n}
			holdList(t, m.Start(), x.start(), "of %d states Start", states)
			for range 3 {
				l := anyList(states, next)
				holdLists(t, m, x, l, "\x00a\xff")
				longest = max(longest, len(m.Closure(l)))
				holdWord(t, m, x, sample.AnyWord(next(5), sample.Edgy, next))
			}
			holdLists(t, m, x, upTo(-3, states+3), "b\x80")
		}
		if t.Failed() {
			return
		}
	}
	if longest < 100 {
		t.Errorf("no list has more than %d states", longest)
	}
}

// Machines of trees: each kind within each other, and random ones.
func TestModelledTrees(t *testing.T) {
	t.Parallel()
	next := sample.Chances()
	l := append(sample.Things(), sample.Around()...)
	for range 300 {
		l = append(l, sample.Small(1+next(30), next))
	}
	for i, x := range l {
		n := machineOf(x, l[(i*7+1)%len(l)])
		if n.States > 400 || n.States == 0 {
			continue
		}
		m, y := at(t, n), model{n}
		holdList(t, m.Start(), y.start(), "of %s Start", texts.Brief(x))
		for range 5 {
			holdLists(t, m, y, anyList(n.States, next), "ab")
			holdWord(t, m, y, sample.AnyWord(next(6), "abc", next))
		}
		if t.Failed() {
			return
		}
	}
}

// asked: what all calls tell of a machine, of lists of its states and of others, and of some words.
func asked(m *Machine, states int) string {
	var text strings.Builder
	fmt.Fprint(&text, m.Start())
	lists := [][]int{nil, upTo(0, states), outsides(states)}
	for state := range states {
		lists = append(lists, []int{state}, []int{states - 1 - state, states + state, state, state})
	}
	for _, l := range lists {
		fmt.Fprint(&text, m.Closure(l), m.Labels(l))
		for i := range len(sample.Edgy) {
			fmt.Fprint(&text, m.Step(l, sample.Edgy[i]))
		}
	}
	for _, w := range append(sample.AllWords("ab\x00\xff", 2), "aab", "abab", "\x3f\x40\x7f\x80") {
		fmt.Fprint(&text, m.Run([]byte(w)), m.Tell([]byte(w)))
	}
	return text.String()
}

package closure

import (
	"slices"
	"testing"

	"doublet/api"
	"doublet/sample"
)

// machines: random ones, and those of random trees.
func machines(next func(most int) int) []api.Nfa {
	var l []api.Nfa
	for range 800 {
		l = append(l, sample.AnyMachine(1+next(20), next))
	}
	for _, states := range []int{64, 65, 100, 200} {
		l = append(l, sample.AnyMachine(states, next))
	}
	for range 300 {
		if n := machineOf(sample.SomeTrees(4, next)...); n.States > 0 && n.States < 300 {
			l = append(l, n)
		}
	}
	return l
}

// Step of a union is the union of Steps; so are Closure and Labels.
func TestP1705StepOfUnions(t *testing.T) {
	t.Parallel()
	next := sample.Chances()
	met := 0
	for _, n := range machines(next) {
		m := at(t, n)
		for range 6 {
			one, other := anyList(n.States, next), anyList(n.States, next)
			both := slices.Concat(one, other)
			b := sample.Edgy[next(len(sample.Edgy))]
			x, y := m.Step(one, b), m.Step(other, b)
			holdList(t, m.Step(both, b), union(x, y), "of %s Step(%v, %d)", front(shown(n)), both, b)
			holdList(t, m.Closure(both), union(m.Closure(one), m.Closure(other)), "of %s Closure(%v)", front(shown(n)), both)
			holdList(t, m.Labels(both), union(m.Labels(one), m.Labels(other)), "of %s Labels(%v)", front(shown(n)), both)
			if len(x) > 0 && len(y) > 0 && !slices.Equal(x, y) {
				met++
			}
			// One by one.
			var each [][]int
			for _, state := range both {
				each = append(each, m.Step([]int{state}, b))
			}
			holdList(t, m.Step(both, b), union(each...), "of %s Step(%v, %d)", front(shown(n)), both, b)
		}
		if t.Failed() {
			return
		}
	}
	if met < 500 {
		t.Errorf("only %d pairs of lists led to several states", met)
	}
}

// Run goes on where it stood; and where it stood tells all of where it goes.
func TestP1705RunGoesOn(t *testing.T) {
	t.Parallel()
	next := sample.Chances()
	far := 0
	for _, n := range machines(next) {
		m := at(t, n)
		for range 6 {
			w := []byte(sample.AnyWord(next(7), []string{"ab", sample.Edgy, "abc"}[next(3)], next))
			l := m.Start()
			holdList(t, m.Run(nil), l, "of %s Run of nil", front(shown(n)))
			for i, b := range w {
				l = m.Step(l, b)
				holdList(t, m.Run(w[:i+1]), l, "of %s Run(%q)", front(shown(n)), w[:i+1])
				if len(l) > 0 && i > 0 {
					far++
				}
			}
		}
		if t.Failed() {
			return
		}
	}
	if far < 500 {
		t.Errorf("only %d words led far", far)
	}
}

// What Closure, Start, Step and Run told is closed: Closure of it is it; and Step of some states by an edge is Closure of those that it leads to.
func TestP1705Closed(t *testing.T) {
	t.Parallel()
	next := sample.Chances()
	for _, n := range machines(next) {
		m := at(t, n)
		for range 4 {
			l, b := anyList(n.States, next), sample.Edgy[next(len(sample.Edgy))]
			w := []byte(sample.AnyWord(next(5), "ab\xff", next))
			for _, told := range [][]int{m.Closure(l), m.Start(), m.Step(l, b), m.Run(w)} {
				holdList(t, m.Closure(told), told, "of %s Closure of a closed list", front(shown(n)))
				holdList(t, told, union(told), "of %s what is told", front(shown(n)))
			}
			var behind []int
			for _, edge := range n.Edges {
				if slices.Contains(l, edge.From) && edge.Set[b/64]>>(b%64)&1 == 1 {
					behind = append(behind, edge.To)
				}
			}
			holdList(t, m.Step(l, b), m.Closure(behind), "of %s Step(%v, %d)", front(shown(n)), l, b)
			// All that are handed in are told by Closure, if they are states.
			states := slices.DeleteFunc(slices.Clone(l), func(state int) bool { return state < 0 || state >= n.States })
			holdList(t, union(m.Closure(l), states), m.Closure(l), "of %s Closure(%v) and what was handed in", front(shown(n)), l)
		}
		if t.Failed() {
			return
		}
	}
}

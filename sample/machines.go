package sample

import (
	"iter"
	"math"
	"slices"

	"doublet/api"
	"doublet/sets"
)

// Edgy: bytes at the edges of the words of a Set, and two others.
const Edgy = "\x00\x3f\x40ab\x7f\x80\xbf\xc0\xff"

// Bare: a machine of so many states, without links and edges, that has the label 0 for each state.
func Bare(states int) api.Nfa { return api.Nfa{States: states, Accept: make([]int, states)} }

// Linked: one of so many states with links, from one state to another one, two by two.
func Linked(states int, ends ...int) api.Nfa {
	n := Bare(states)
	for ends := range slices.Chunk(ends, 2) {
		n.Links = append(n.Links, api.Link{From: ends[0], To: ends[1]})
	}
	return n
}

// Edge: one by some bytes.
func Edge(from int, bytes string, to int) api.Edge {
	return api.Edge{From: from, Set: sets.Of([]byte(bytes)...), To: to}
}

// Full: one with links and edges between its states, and labels.
func Full(states int) api.Nfa {
	n := Bare(states)
	n.Start = states / 2
	for i := range min(states, 20) {
		other := states - 1 - i
		n.Links = append(n.Links, api.Link{From: i, To: other}, api.Link{From: other, To: other}, api.Link{From: i, To: other})
		n.Edges = append(n.Edges, api.Edge{From: other, Set: sets.Of(byte(i)), To: i}, api.Edge{From: i, To: i})
		n.Accept[other] = 1 + i*3
	}
	return n
}

// Outside: numbers that are none of so many states.
func Outside(states int) []int {
	return []int{math.MinInt, -1 << 32, -states - 1, -states, -2, -1, states, states + 1, 2*states + 1, 1 << 32, math.MaxInt}
}

// AnySet: a set of no, one, some or all bytes.
func AnySet(next func(most int) int) api.Set {
	one, other := Edgy[next(len(Edgy))], Edgy[next(len(Edgy))]
	return []api.Set{{}, sets.All(), sets.Of(one), sets.Of(one, other), sets.Span(one, other), sets.Not(sets.Of(one))}[next(6)]
}

// AnyMachine: a machine of so many states that may be, and seldom is one of trees.
func AnyMachine(states int, next func(most int) int) api.Nfa {
	n := Bare(states)
	n.Start = next(states)
	for range next(2*states + 10) {
		n.Links = append(n.Links, api.Link{From: next(states), To: next(states)})
	}
	for range next(states + 10) {
		n.Edges = append(n.Edges, api.Edge{From: next(states), Set: AnySet(next), To: next(states)})
	}
	for range next(states + 10) {
		n.Accept[next(states)] = next(api.MaxRules + 1)
	}
	return n
}

// Numbers: all numbers of a machine but those of its sets.
func Numbers(n *api.Nfa) []*int {
	l := []*int{&n.States, &n.Start}
	for i := range n.Links {
		l = append(l, &n.Links[i].From, &n.Links[i].To)
	}
	for i := range n.Edges {
		l = append(l, &n.Edges[i].From, &n.Edges[i].To)
	}
	for i := range n.Accept {
		l = append(l, &n.Accept[i])
	}
	return l
}

// WrongMachines goes through machines that may not be, each for one thing; some of them lie in the same memory.
func WrongMachines() iter.Seq[api.Nfa] {
	return func(yield func(api.Nfa) bool) {
		for _, n := range wrongStates() {
			if !yield(n) {
				return
			}
		}
		for _, states := range []int{1, 2, 3, 7, 64, 65, 1000, api.MaxNfa} {
			for _, n := range wronglyLabelled(states) {
				if !yield(n) {
					return
				}
			}
			n := Full(states)
			// Of the labels, which stand last, not all are taken, for there may be thousands.
			for place, number := range Numbers(&n)[1:] {
				wrong := Outside(states)
				if labels := 1 + 2*len(n.Links) + 2*len(n.Edges); place >= labels {
					if place-labels > 3 && place-labels < states-3 {
						continue
					}
					wrong = []int{math.MinInt, -64, -1, api.MaxRules + 1, 128, 1 << 32, math.MaxInt}
				}
				kept := *number
				for _, *number = range wrong {
					if !yield(n) {
						return
					}
				}
				*number = kept
			}
		}
	}
}

// wrongStates: machines that may not be for how many states they have.
func wrongStates() []api.Nfa {
	l := []api.Nfa{{}, {Links: []api.Link{}, Edges: []api.Edge{}, Accept: []int{}}}
	for _, states := range []int{api.MaxNfa + 1, api.MaxNfa + 2, 2 * api.MaxNfa, 1 << 20} {
		l = append(l, Bare(states), Full(states))
	}
	// Labels there cannot be as many as these.
	for _, states := range []int{math.MinInt, -api.MaxNfa, -2, -1, 0, 1 << 40, math.MaxInt} {
		for _, labels := range []int{0, 1, 2, api.MaxNfa} {
			l = append(l, api.Nfa{States: states, Accept: make([]int, labels)}, api.Nfa{States: states, Start: states - 1, Accept: make([]int, labels)})
		}
	}
	return l
}

// wronglyLabelled: machines that may not be for how many labels they have.
func wronglyLabelled(states int) []api.Nfa {
	var l []api.Nfa
	for _, n := range []api.Nfa{Bare(states), Full(states)} {
		for _, labels := range []int{0, states - 1, states + 1, 2 * states, states + 100} {
			n.Accept = slices.Repeat([]int{1}, labels)
			l = append(l, n)
		}
		n.Accept = nil
		l = append(l, n)
	}
	return l
}

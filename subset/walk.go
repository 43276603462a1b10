package subset

import (
	"doublet/api"
	"doublet/bitset"
	"doublet/closure"
	"doublet/intern"
	"doublet/parts"
)

// machine is one that may be in several states, at work: how many states it has, its classes, the least byte of each of these, and for each state the Sets of the edges that lead from it.
type machine struct {
	work    *closure.Machine
	states  int
	classes [256]uint8
	leasts  []byte
	sets    [][]api.Set
}

// started: a machine of which there may be so many subsets.
func started(n api.Nfa, most int) (*machine, api.Errno) {
	work, wrong := closure.New(n)
	if wrong != api.OK {
		return nil, wrong
	}
	if most < 1 || most > api.MaxStates {
		return nil, api.ErrArg
	}
	m := &machine{work: work, states: n.States, sets: make([][]api.Set, n.States)}
	// Of thousands of edges most have one of a few Sets, and parts takes its time for each.
	all := intern.New[api.Set]()
	for _, edge := range n.Edges {
		m.sets[edge.From] = append(m.sets[edge.From], edge.Set)
		all.Put(edge.Set)
	}
	m.classes, _ = parts.Of(all.Keys())
	m.leasts = parts.Leasts(m.classes)
	return m, api.OK
}

// walk hands each subset over, in the order in which they are met, with the numbers of those behind it, by the classes. False: there are more than most.
func (m *machine) walk(most int, visit func(subset, behind []int)) bool {
	first := m.work.Start()
	met := intern.New[string]()
	met.Put(m.key(first))
	waiting := [][]int{first}
subsets:
	for len(waiting) > 0 {
		subset := waiting[0]
		// Let go of: all subsets take far more memory than the machine of them, and than those that wait.
		waiting[0], waiting = nil, waiting[1:]
		behind := make([]int, len(m.leasts))
		for class, like := range m.alike(subset) {
			if like < class {
				behind[class] = behind[like]
				continue
			}
			next := m.work.Step(subset, m.leasts[class])
			number, isNew := met.Put(m.key(next))
			if met.Len() > most {
				break subsets
			}
			if isNew {
				waiting = append(waiting, next)
			}
			behind[class] = number
		}
		visit(subset, behind)
	}
	return met.Len() <= most
}

// alike: for each class the first one that the edges from a subset do not tell from it, so that behind both the same stands. A step by each class would take long where there are many, most of which lead nowhere, or to one place.
func (m *machine) alike(subset []int) []int {
	likes := make([]int, len(m.leasts))
	groups := 1
	var last api.Set
	for _, state := range subset {
		for _, set := range m.sets[state] {
			if groups == len(likes) {
				return likes
			}
			if set != last {
				groups += m.part(likes, set)
				last = set
			}
		}
	}
	return likes
}

// part tells classes of which one is in a set, and the other is not, from each other, and how many groups there are more.
func (m *machine) part(likes []int, set api.Set) int {
	has := func(class int) bool {
		b := m.leasts[class]
		return set[b/64]>>(b%64)&1 == 1
	}
	// For the first class of each group the first one of those that leave it. 0 stands for none: it is the first class of all, and never leaves.
	var leave [256]int
	more := 0
	for class, like := range likes {
		if has(class) == has(like) {
			continue
		}
		if leave[like] == 0 {
			leave[like] = class
			more++
		}
		likes[class] = leave[like]
	}
	return more
}

// key: a text that two subsets have in common just if they are the same.
func (m *machine) key(subset []int) string {
	// There is room, for a machine that may be has no more states than a set may have.
	in, _ := bitset.New(m.states)
	for _, state := range subset {
		in.Put(state)
	}
	return in.Key()
}

// label: the least one of a subset's states; 0: none has one.
func (m *machine) label(subset []int) int {
	labels := m.work.Labels(subset)
	if len(labels) == 0 {
		return 0
	}
	return labels[0]
}

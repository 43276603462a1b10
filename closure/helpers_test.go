package closure

import (
	"fmt"
	"math"
	"slices"
	"testing"

	"doublet/api"
	"doublet/nfa"
	"doublet/sample"
	"doublet/texts"
)

const (
	greatest = math.MaxInt
	least    = math.MinInt
)

// Short names for what most trees and machines are made of.
var (
	a, b, c, e = sample.A, sample.B, sample.C, sample.Empty
	none, hole = sample.None, sample.Hole
	of, rep    = sample.Of, sample.Rep

	bare, full, outsides = sample.Bare, sample.Full, sample.Outside
	linked, edge         = sample.Linked, sample.Edge
	shown, front         = texts.Machine, texts.Front
	read, several        = texts.Tree, texts.Several
	upTo                 = sample.UpTo
)

// at: a machine that may be, at work.
func at(t *testing.T, n api.Nfa) *Machine {
	t.Helper()
	m, wrong := New(n)
	if m == nil || wrong != api.OK {
		t.Fatalf("New of %s tells %d", front(shown(n)), wrong)
	}
	return m
}

// ofTrees: the machine of trees, at work.
func ofTrees(t *testing.T, l ...api.Node) *Machine {
	t.Helper()
	n, wrong := nfa.Of(l)
	if wrong != api.OK {
		t.Fatalf("%s have no machine: %d", several(l), wrong)
	}
	return at(t, n)
}

// ofTexts: likewise, of trees that are written out.
func ofTexts(t *testing.T, l ...string) *Machine {
	t.Helper()
	var trees []api.Node
	for _, text := range l {
		trees = append(trees, read(text))
	}
	return ofTrees(t, trees...)
}

// holdList: a call tells just these numbers, in this order.
func holdList(t *testing.T, got, want []int, what string, about ...any) {
	t.Helper()
	if !slices.Equal(got, want) {
		t.Errorf("%s is %s, want %s", fmt.Sprintf(what, about...), front(fmt.Sprint(got)), front(fmt.Sprint(want)))
	}
}

// union: what is in one of some lists, rising, each once.
func union(l ...[]int) []int {
	all := slices.Concat(l...)
	slices.Sort(all)
	return slices.Compact(all)
}

// anyList: numbers of which most are states, in any order, some of them several times.
func anyList(states int, next func(most int) int) []int {
	var l []int
	for range next(8) {
		l = append(l, next(states))
	}
	switch next(4) {
	case 0:
		l = append(l, l...)
	case 1:
		some := outsides(states)
		l = append(l, some[next(len(some))], some[next(len(some))])
	}
	return sample.Shuffled(l, next)
}

// machineOf: the machine of trees; one without states, if there is none.
func machineOf(l ...api.Node) api.Nfa {
	n, _ := nfa.Of(l)
	return n
}

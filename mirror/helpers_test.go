package mirror

import (
	"fmt"
	"math"
	"testing"

	"doublet/api"
	"doublet/nfa"
	"doublet/sample"
	"doublet/texts"
	"doublet/tree"
)

const (
	greatest = math.MaxInt
	least    = math.MinInt
)

// Short names for what most trees and machines are made of.
var (
	a, b, c, e       = sample.A, sample.B, sample.C, sample.Empty
	none, hole, leaf = sample.None, sample.Hole, sample.Leaf
	of, rep          = sample.Of, sample.Rep

	bare, linked, edge = sample.Bare, sample.Linked, sample.Edge
	read, brief        = texts.Tree, texts.Brief
	shown, front       = texts.Machine, texts.Front
)

// reversed: a word, turned round.
func reversed(w string) string {
	v := ""
	for i := range len(w) {
		v = w[i:i+1] + v
	}
	return v
}

// holdTree: a call tells just this tree.
func holdTree(t *testing.T, got, want api.Node, what string, about ...any) {
	t.Helper()
	if !tree.Same(got, want) {
		t.Errorf("%s is %s, want %s", fmt.Sprintf(what, about...), brief(got), brief(want))
	}
}

// holdTurned: of a tree Tree tells just that one, and of that one it.
func holdTurned(t *testing.T, x, want api.Node) {
	t.Helper()
	holdTree(t, Tree(x), want, "Tree(%s)", brief(x))
	holdTree(t, Tree(want), x, "Tree(%s)", brief(want))
}

// turned: what Nfa makes of a machine that may be, and has room.
func turned(t *testing.T, n api.Nfa, label int) api.Nfa {
	t.Helper()
	m, wrong := Nfa(n, label)
	if wrong != api.OK {
		t.Errorf("Nfa(%s, %d) tells %d", front(shown(n)), label, wrong)
	}
	return m
}

// holdNfa: of a machine and a label Nfa makes just this one.
func holdNfa(t *testing.T, n api.Nfa, label int, want api.Nfa) {
	t.Helper()
	if m := turned(t, n, label); !nfa.Same(m, want) {
		t.Errorf("Nfa(%s, %d) is\n%s, want\n%s", front(shown(n)), label, front(shown(m)), front(shown(want)))
	}
}

// holdWrong: Nfa tells an error, and an empty machine beside it.
func holdWrong(t *testing.T, n api.Nfa, label int, want api.Errno) {
	t.Helper()
	m, wrong := Nfa(n, label)
	if wrong != want || !nfa.Same(m, api.Nfa{}) {
		t.Errorf("Nfa of %d states from %d, with %d links, %d edges and %d labels, for %d tells %d, want %d, and %s", n.States, n.Start, len(n.Links), len(n.Edges), len(n.Accept), label, wrong, want, front(shown(m)))
	}
}

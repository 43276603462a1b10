package hopcroft

import (
	"slices"
	"testing"

	"doublet/api"
	"doublet/dfa"
	"doublet/moore"
	"doublet/quotient"
	"doublet/sample"
)

// holdByRounds: Blocks of a machine, which may be or not, are those of moore, and these are Stable, and numbers of as many states.
func holdByRounds(t *testing.T, d api.Dfa) {
	t.Helper()
	want := moore.Blocks(d)
	holdBlocks(t, Blocks(d), want, "Blocks of %s", brief(d))
	if right := dfa.Right(d); right != (len(want) > 0) || right && !quotient.Stable(d, want) {
		t.Errorf("moore.Blocks are %s of %s", many(want), brief(d))
	}
}

func TestP2503WrittenOut(t *testing.T) {
	t.Parallel()
	next := sample.Chances()
	for states := 1; states <= 40; states++ {
		for _, d := range []api.Dfa{
			row(states), ring("x", by(states, func(s int) int { return s % 3 % 2 })...), leading(states, 3, 2), leading(states, 256, 64), quiet(states, 7),
			withLabels(leading(states, 2, 0), "x", row(states).Label), withLabels(leading(states, 5, 0), "x", by(states, func(s int) int { return s & 1 })),
			withNext(row(states), states-1, 0, states/2), withNext(row(states), states/2, 0, 0), withLabel(row(states), states/3, 1),
		} {
			holdByRounds(t, d)
			holdByRounds(t, renumbered(d, sample.Shuffled(upTo(0, states), next)))
		}
	}
	for _, labels := range [][]int{{0, 0, 0, 0}, {1, 1, 1, 1}, {1, 2, 1, 2}, {1, 2, 2, 1}, {0, 0, 0, 1}, {2, 0, 0, 0}, {1, 1, 2, 2}, {0, 1, 2, 0}} {
		holdByRounds(t, tree(labels...))
	}
	for bits := 1; bits <= 9; bits++ {
		holdByRounds(t, shifted(bits))
		holdByRounds(t, sample.Bitwise(bits))
	}
	// Such as may not be.
	for _, d := range []api.Dfa{{}, withLabel(row(5), 4, 2), withNext(row(5), 4, 0, 5), withNext(row(5), 0, 0, -1), withRow(row(5), 3, nil), withName(row(5), 0, ""), {Width: 1, Next: [][]int{{0}}}} {
		holdByRounds(t, d)
	}
}

// Random machines, that may be, and that may not: with states that are alike, and without; with labels of all states by chance, or of one alone; rows with one state that leads elsewhere; words of bits, numbers, with one thing made another one.
func TestP2503Random(t *testing.T) {
	t.Parallel()
	next := sample.Chances()
	met := map[string]int{}
	for i := range 12000 {
		d, _ := sample.AnyUnfolded(1+i%60, next)
		switch i % 6 {
		case 0:
			d = sample.SpoiltDfa(d, next)
		case 1:
			d = withLabels(d, "x y", sample.Many(len(d.Label), func() int { return next(3) }))
		case 2:
			d = withLabels(d, "x", make([]int, len(d.Label)))
			d.Label[next(len(d.Label))] = 1
		case 3:
			states := 2 + next(40)
			d = renumbered(withNext(row(states), next(states), 0, next(states)), sample.Shuffled(upTo(0, states), next))
		case 4:
			d = sample.OneOf([]func(int) api.Dfa{shifted, sample.Bitwise}, next)(1 + next(6))
			for range next(3) {
				d = withNext(d, next(len(d.Label)), next(d.Width), next(len(d.Label)))
				d = withLabel(d, next(len(d.Label)), next(2))
			}
		}
		blocks := Blocks(d)
		switch {
		case len(blocks) == 0:
			met["wrong"]++
		case slices.Max(blocks) == 0:
			met["all"]++
		case slices.Max(blocks) == len(blocks)-1:
			met["none"]++
		default:
			met["some"]++
		}
		if holdByRounds(t, d); t.Failed() {
			return
		}
	}
	if len(met) != 4 || min(met["wrong"], met["all"], met["none"], met["some"]) < 700 {
		t.Errorf("so often states were alike, or the machine might not be: %v", met)
	}
}

// Machines of some hundred states, and of a few thousand.
func TestP2503Greater(t *testing.T) {
	t.Parallel()
	next := sample.Chances()
	for i := range 300 {
		d := sample.AnyDfa(100+next(400), next)
		if i%2 == 0 {
			d, _ = sample.Unfolded(d, len(d.Label)+next(400), next)
		}
		if i%3 == 0 {
			d = withLabels(d, "x", make([]int, len(d.Label)))
			d.Label[next(len(d.Label))] = 1
		}
		holdByRounds(t, d)
		holdSplits(t, d, slices.Max(moore.Blocks(d))+1-labelsOf(d))
	}
	for range 10 {
		holdByRounds(t, sample.AnyDfa(3000+next(3000), next))
	}
}

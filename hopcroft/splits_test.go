package hopcroft

import (
	"slices"
	"testing"

	"doublet/api"
	"doublet/sample"
)

func TestP2502SplitsWrittenOut(t *testing.T) {
	for _, r := range []struct {
		d    api.Dfa
		want int
	}{
		// All alike.
		{quiet(1, 1), 0}, {quiet(1, 256), 0}, {ring("x", 1), 0}, {quiet(9, 3), 0}, {leading(9, 3, 0), 0}, {ring("x", 1, 1, 1), 0}, {withLabels(row(5), "x", make([]int, 5)), 0},
		// Labels alone tell all that is told apart.
		{ring("x", 1, 0), 0}, {ring("x y", 1, 2), 0}, {ring("x", 1, 0, 1, 0), 0}, {ring("x y", 1, 2, 0, 1, 2, 0), 0}, {withLabels(quiet(6, 2), "x y z", ints(3, 1, 0, 3, 2, 1)), 0}, {row(2), 0},
		// None are alike: as many as states, less their labels.
		{row(3), 1}, {row(10), 8}, {ring("x", 1, 0, 0), 1}, {ring("x", 1, 0, 0, 0, 0, 0, 0), 5}, {ring("x y", 1, 1, 2, 2, 2), 3}, {ring("x y", 1, 1, 2, 2, 0, 0), 3}, {shifted(5), 30}, {sample.Bitwise(5), 30},
		// Some are.
		{tree(1, 1, 1, 1), 1}, {tree(1, 2, 1, 2), 1}, {tree(1, 2, 2, 1), 2}, {tree(0, 0, 0, 1), 2}, {ring("x", 1, 0, 0, 1, 0, 0), 1}, {ring("x y", 1, 1, 2, 2, 1, 1, 2, 2), 2},
		// No state has the label 0, or just one has it, or all but one.
		{ring("x y", 1, 1, 2), 1}, {ring("x y", 2, 2, 1, 2), 2}, {ring("x y", 0, 1, 2), 0}, {ring("x y", 0, 1, 1, 2, 2), 2}, {ring("x y", 0, 0, 0, 2), 2},
		// States to which no word leads, and their labels, count as all others do.
		{rows("x", ints(0, 1, 0, 0, 0), ints(1), ints(1), ints(1), ints(2), ints(3)), 2}, {rows("x y", ints(0, 1, 2), ints(0), ints(1), ints(2)), 0}, {rows("x y", ints(0, 0, 2), ints(0), ints(2), ints(2)), 1},
	} {
		holdSplits(t, r.d, r.want)
	}
}

// Names of which no state has the label count for nothing, however many there are; and it does not matter which number a label has.
func TestP2502SplitsNames(t *testing.T) {
	t.Parallel()
	next := sample.Chances()
	for i := range 600 {
		d, _ := sample.AnyUnfolded(1+i%20, next)
		d.Names = called(1 + next(20))
		d.Label = by(len(d.Label), func(int) int { return next(len(d.Names) + 1) })
		want, blocks := Splits(d), Blocks(d)
		for _, names := range ints(len(d.Names), len(d.Names)+1, 40, api.MaxRules) {
			x := d
			x.Names = called(names)
			holdSplits(t, x, want)
			// Other numbers for labels, 0 among them.
			numbers := sample.Shuffled(upTo(0, names+1), next)
			x.Label = by(len(d.Label), func(s int) int { return numbers[d.Label[s]] })
			holdSplits(t, x, want)
			holdBlocks(t, Blocks(x), blocks, "Blocks of %s", brief(x))
		}
		if t.Failed() {
			return
		}
	}
}

// None alike, with each number of labels that there may be: so many fewer splits.
func TestP2502SplitsLabels(t *testing.T) {
	t.Parallel()
	const states = 100
	for labels := range api.MaxRules {
		for _, from := range ints(0, 1) {
			// The last states have labels of their own, all others one: none, or the first.
			d := row(states)
			d.Names = called(api.MaxRules)
			d.Label = by(states, func(s int) int { return from + max(0, s-states+1+labels) })
			if labels == 0 {
				holdAlike(t, d, make([]int, states))
				continue
			}
			holdSplits(t, d, states-labels-1)
			holdAlike(t, d, upTo(0, states))
			// They are the first ones of a ring.
			d = withNext(d, states-1, 0, 0)
			d.Label = sample.Turned(d.Label)
			holdSplits(t, d, states-labels-1)
		}
	}
}

// Splits are not below 0, and no more than states that are left; what Small tells has no more than the machine.
func TestP2502SplitsRandom(t *testing.T) {
	t.Parallel()
	next := sample.Chances()
	met := map[int]int{}
	for i := range 3000 {
		d, _ := sample.AnyUnfolded(1+i%25, next)
		got := Splits(d)
		if met[min(got, 3)]++; got < 0 || got > len(d.Label)-labelsOf(d) || got != slices.Max(Blocks(d))+1-labelsOf(d) {
			t.Errorf("there are %d splits of %s", got, brief(d))
		}
		small, _ := Small(d)
		if Splits(small) > got || len(small.Label) > got+labelsOf(d) {
			t.Errorf("there are %d splits of %s, and %d of %s", got, brief(d), Splits(small), brief(small))
		}
	}
	if min(met[0], 3*met[1], 3*met[2], met[3]) < 300 {
		t.Errorf("so often there were so many splits: %v", met)
	}
}

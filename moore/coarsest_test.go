package moore

import (
	"slices"
	"testing"

	"doublet/api"
	"doublet/dfa"
	"doublet/quotient"
	"doublet/sample"
)

// modelStable: have two states in one block always one label, and behind them by each class states that are in one block?
func modelStable(d api.Dfa, l []int) bool {
	for s := range l {
		for other := range s {
			if l[s] != l[other] {
				continue
			}
			if d.Label[s] != d.Label[other] {
				return false
			}
			for class := range d.Width {
				if l[d.Next[s][class]] != l[d.Next[other][class]] {
					return false
				}
			}
		}
	}
	return true
}

// holdCoarsest: of blocks just those are Stable that are told so; all of these are finer than Blocks, which are among them. Tells how many they are.
func holdCoarsest(t *testing.T, d api.Dfa, all [][]int) int {
	t.Helper()
	blocks := Blocks(d)
	stable, itself := 0, false
	for _, l := range all {
		is := modelStable(d, l)
		if quotient.Stable(d, l) != is {
			t.Errorf("Stable is %t of %s, and %s", !is, many(l), brief(d))
		}
		if !is {
			continue
		}
		stable++
		itself = itself || slices.Equal(l, blocks)
		if !quotient.Finer(l, blocks) {
			t.Errorf("%s are Stable, and not finer than Blocks, %s, of %s", many(l), many(blocks), brief(d))
		}
	}
	if !itself {
		t.Errorf("Blocks are %s, which are not Stable, or not normal, of %s", many(blocks), brief(d))
	}
	return stable
}

func TestP2404WrittenOut(t *testing.T) {
	t.Parallel()
	for _, r := range []struct {
		d      api.Dfa
		stable int
	}{
		{quiet(1, 1), 1}, {quiet(2, 3), 2}, {quiet(3, 1), 5}, {quiet(5, 2), 52},
		// Rests by what a ring's length has.
		{ring("", make([]int, 6)...), 4}, {ring("x", 1, 0, 1, 0, 1, 0), 2}, {ring("x", 1, 0, 0, 1, 0, 0), 2}, {ring("x", 1, 0, 0, 0, 0, 0), 1}, {ring("", make([]int, 8)...), 4},
		// A row: with a label at its end each state is alone; without one some of the last ones are together.
		{row(6), 1}, {withLabels(row(6), "x", make([]int, 6)), 6},
		// A tree: its sides, and ends, are put together, or not.
		{tree(1, 2, 1, 2), 5}, {tree(1, 2, 2, 1), 4}, {tree(1, 0, 0, 2), 2},
		// Two that lead to each other may be put together, whatever the label of both.
		{rows("", ints(0, 0), ints(1), ints(0)), 2}, {rows("x", ints(1, 1), ints(1), ints(0)), 2}, {rows("x", ints(1, 0), ints(1), ints(0)), 1},
	} {
		if got := holdCoarsest(t, r.d, partitions(len(r.d.Label))); got != r.stable {
			t.Errorf("%d blocks are Stable, want %d, of %s", got, r.stable, brief(r.d))
		}
	}
}

// All small machines with all blocks.
func TestP2404Small(t *testing.T) {
	t.Parallel()
	several := 0
	for _, size := range [][3]int{{1, 2, 1}, {2, 1, 2}, {2, 2, 2}, {3, 1, 2}, {3, 2, 1}, {4, 1, 1}} {
		all := partitions(size[0])
		sample.EachDfa(size[0], size[1], size[2], func(d api.Dfa) {
			if !t.Failed() && holdCoarsest(t, d, all) > 1 {
				several++
			}
		})
	}
	if several < 2000 {
		t.Errorf("only of %d machines several blocks are Stable", several)
	}
}

// Random machines of up to seven states, with states that are alike and without, with all blocks.
func TestP2404Random(t *testing.T) {
	t.Parallel()
	next := sample.Chances()
	most := map[int]int{}
	all := [][][]int{}
	for states := range 8 {
		all = append(all, partitions(states))
	}
	for i := range 600 {
		d, _ := sample.AnyUnfolded(1+i%4, next)
		if len(d.Label) > 7 {
			continue
		}
		if most[min(holdCoarsest(t, d, all[len(d.Label)]), 3)]++; t.Failed() {
			return
		}
	}
	if min(most[1], most[2], most[3]) < 50 {
		t.Errorf("so often so many blocks were Stable: %v", most)
	}
}

// Greater machines: blocks that are known to be Stable, as states are as those of a machine of fewer, are finer; of the machine of blocks each state is alone.
func TestP2404Unfolded(t *testing.T) {
	t.Parallel()
	next := sample.Chances()
	fewer, same := 0, 0
	for i := range 1000 {
		d, l := sample.AnyUnfolded(1+i%30, next)
		blocks := Blocks(d)
		if !quotient.Finer(l, blocks) || !quotient.Stable(d, blocks) {
			t.Fatalf("Blocks are %s, and %s are Stable, of %s", many(blocks), many(l), brief(d))
		}
		if quotient.Finer(blocks, l) {
			same++
		} else {
			fewer++
		}
		x, wrong := quotient.Of(d, blocks)
		if wrong != api.OK || !dfa.Right(x) {
			t.Fatalf("quotient.Of tells %d, by Blocks of %s", wrong, brief(d))
		}
		states := len(x.Label)
		holdLast(t, x, Rounds(d), upTo(0, states))
		// In what is unfolded of that, just those are alike that are as one.
		y, as := sample.Unfolded(x, states+next(2*states), next)
		holdLast(t, y, Rounds(d), quotient.Norm(as))
		// To spread classes changes nothing.
		if holdLast(t, sample.Spread(y, 3, next), Rounds(d), quotient.Norm(as)); t.Failed() {
			return
		}
	}
	if min(fewer, same) < 200 {
		t.Errorf("%d times more states were alike than were known to be, %d times just these", fewer, same)
	}
}

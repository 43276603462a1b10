package moore

import (
	"slices"
	"testing"

	"doublet/quotient"
	"doublet/sample"
)

// Rows of states of which just the last one is told: two rounds fewer than states; in whatever order the states stand.
func TestP2402RoundsOfRows(t *testing.T) {
	t.Parallel()
	next := sample.Chances()
	for states := 1; states <= 70; states++ {
		d := row(states)
		all := upTo(0, states)
		if states == 1 {
			holdTold(t, d, all)
			continue
		}
		var told [][]int
		for k := range states - 1 {
			told = append(told, by(states, func(s int) int { return max(0, s+k+2-states) }))
		}
		holdTold(t, d, told...)
		for _, places := range [][]int{sample.Turned(all), sample.Shuffled(all, next)} {
			var there [][]int
			for _, l := range told {
				there = append(there, moved(l, places))
			}
			holdTold(t, renumbered(d, places), there...)
		}
		// With two labels, at the one end and at the other, there is one less.
		if states > 2 {
			d.Names = called(2)
			d.Label[0] = 2
			holdLast(t, d, states-3, all)
		}
		// No label, or one at all states.
		for label := range 2 {
			d.Label = by(states, func(int) int { return label })
			holdTold(t, d, make([]int, states))
		}
		// Each state has its own.
		if states <= 64 {
			d.Names = called(states)
			d.Label = by(states, func(s int) int { return states - s })
			holdTold(t, d, all)
		}
	}
}

// Rings of states of which one is told, or each of a rest: as many rounds as it takes to come there, less two.
func TestP2402RoundsOfRings(t *testing.T) {
	t.Parallel()
	for states := 1; states <= 40; states++ {
		for length := 1; length <= states; length++ {
			if states%length != 0 {
				continue
			}
			d := ring("x", by(states, func(s int) int { return 1 - min(s%length, 1) })...)
			holdLast(t, d, max(length-2, 0), rest(states, length))
			for k := range length {
				want := by(states, func(s int) int {
					// How many steps there are to the next one that is told, if so many bytes are enough.
					if steps := (length - s%length) % length; steps <= k {
						return steps
					}
					return -1
				})
				holdAfter(t, d, k, quotient.Norm(want))
			}
		}
	}
}

// As many rounds as are asked for, from none to two less than there are states.
func TestP2402RoundsOfEachNumber(t *testing.T) {
	t.Parallel()
	for _, states := range ints(2, 3, 4, 9, 33) {
		for rounds := range states - 1 {
			// A row of as many states as need so many, and others that stand beside its last one.
			d := row(states)
			end := rounds + 1
			for s := end; s < states; s++ {
				d.Next[s], d.Label[s] = ints(end), 1
			}
			d.Next[end-1] = ints(states - 1)
			holdLast(t, d, rounds, by(states, func(s int) int { return min(s, end) }))
			// No word leads to those that need it.
			x := renumbered(d, append(by(states-1, func(s int) int { return s + 1 }), 0))
			holdLast(t, x, rounds, moved(by(states, func(s int) int { return min(s, end) }), append(by(states-1, func(s int) int { return s + 1 }), 0)))
		}
	}
}

// Two machines side by side need as many rounds as the one that needs more, or more, if they are alike at first.
func TestP2402RoundsSideBySide(t *testing.T) {
	t.Parallel()
	next := sample.Chances()
	more := 0
	for range 600 {
		a, b := sample.AnyDfa(1+next(8), next), sample.AnyDfa(1+next(8), next)
		states := len(a.Label)
		x := a
		x.Names = called(64)
		x.Next, x.Label = slices.Clone(a.Next), slices.Clone(a.Label)
		for s, label := range b.Label {
			x.Next = append(x.Next, by(a.Width, func(class int) int { return states + b.Next[s][class%b.Width] }))
			x.Label = append(x.Label, label)
		}
		one := Blocks(x)
		holdBlocks(t, quotient.Norm(one[:states]), Blocks(a), "Blocks of the first half of %s", brief(x))
		if Rounds(x) < Rounds(a) || Rounds(x) >= len(x.Label) {
			t.Errorf("there are %d rounds of %s", Rounds(x), brief(x))
		}
		if Rounds(x) > Rounds(a) {
			more++
		}
	}
	if more < 100 {
		t.Errorf("only so often there were more rounds: %d", more)
	}
}

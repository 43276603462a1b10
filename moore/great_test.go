package moore

import (
	"slices"
	"testing"

	"doublet/api"
	"doublet/quotient"
	"doublet/sample"
)

// holdGreat: of a great machine After of 0 is the first one of these blocks, and Blocks, of as many Rounds, the last one.
func holdGreat(t *testing.T, d api.Dfa, rounds int, want ...[]int) {
	t.Helper()
	holdAfter(t, d, -1, want[0])
	holdLast(t, d, rounds, want[len(want)-1])
}

// As many states and classes as there may be: all alike, none alike, and many that are.
func TestGreatBlocks(t *testing.T) {
	t.Parallel()
	one, all := make([]int, most), upTo(0, most)
	holdGreat(t, quiet(most, 256), 0, one)
	d := leading(most, 256, api.MaxRules)
	holdGreat(t, d, 2, rest(most, api.MaxRules+1), all)
	holdAfter(t, d, greatest, all)
	// The same rows with no label, and with a label of the last state alone, or of each second one.
	for s := range d.Label {
		d.Label[s] = 0
	}
	holdGreat(t, d, 0, one)
	d.Label[most-1] = 1
	holdBlocks(t, Blocks(d), all, "Blocks of %s", brief(d))
	for s := range d.Label {
		d.Label[s] = s % 2
	}
	holdGreat(t, d, 0, rest(most, 2))
	// Rests by a power of two stay such, by sums; which are told by the labels of a smaller machine.
	const few = 1024
	small := leading(few, 256, api.MaxRules)
	for s := range d.Label {
		d.Label[s] = small.Label[s%few]
	}
	holdGreat(t, d, Rounds(small), by(most, func(s int) int { return s % few % 65 }), rest(most, few))
}

// Bits that go by: as many states as there may be, and a round for each bit but one.
func TestGreatShifted(t *testing.T) {
	t.Parallel()
	holdShifted(t, 16)
}

// What the last state alone, by its last class alone, makes another one.
func TestGreatLastOne(t *testing.T) {
	t.Parallel()
	d := quiet(most, 256)
	d.Names = called(1)
	for s, row := range d.Next {
		clear(row)
		d.Label[s] = 1 - min(s, 1)
	}
	two := by(most, func(s int) int { return min(s, 1) })
	holdGreat(t, d, 0, two)
	d = withNext(d, most-1, 255, 1)
	holdGreat(t, d, 1, two, by(most, func(s int) int { return min(s, 1) + s/(most-1) }))
	// It is told apart from the state that leads to it, and that one from all others.
	d = withNext(d, most-2, 0, most-1)
	holdGreat(t, d, 1, two, by(most, func(s int) int { return min(s, 1) + max(s-most+3, 0) }))
}

// All bits together tell each state apart.
func TestGreatBits(t *testing.T) {
	t.Parallel()
	d := sample.Bitwise(16)
	holdGreat(t, d, 1, by(most, func(s int) int { return min(s, 1) }), upTo(0, most))
	// Two that have the label, and lead to nothing else, are alike.
	d.Label[1] = 1
	holdGreat(t, d, 1, by(most, func(s int) int { return s / 2 / max(s/2, 1) }), by(most, func(s int) int { return max(s-1, 0) }))
}

// Two blocks whose numbers are the same but for a bit, each one that there is, are two: states that lead to them are told apart in the second round.
func TestGreatNumbers(t *testing.T) {
	t.Parallel()
	all := upTo(0, most)
	for bit := range 16 {
		to := 1<<14 + 5
		d := withRow(sample.Bitwise(16), most-3, slices.Repeat(ints(to), 16))
		d = withRow(d, most-2, slices.Repeat(ints(to^1<<bit), 16))
		holdAfter(t, d, 1, by(most, func(s int) int { return min(s, most-3) }))
		holdLast(t, d, 2, all)
	}
}

// As many states as there may be that are as those of a machine of few.
func TestGreatUnfolded(t *testing.T) {
	t.Parallel()
	next := sample.Chances()
	for _, small := range []api.Dfa{leading(100, 4, 20), row(200), shifted(7), leading(3, 256, 1), ring("x", append(ints(1), make([]int, 30)...)...)} {
		d, as := sample.Unfolded(small, most, next)
		rounds := Rounds(small)
		holdLast(t, d, rounds, quotient.Norm(as))
		for _, k := range ints(0, 1, rounds-1, rounds) {
			told := After(small, k)
			holdAfter(t, d, k, quotient.Norm(by(most, func(s int) int { return told[as[s]] })))
		}
	}
}

// Nearly as many rounds as there are states, of a few thousand.
func TestGreatRounds(t *testing.T) {
	t.Parallel()
	const states = 3000
	d := row(states)
	all := upTo(0, states)
	holdLast(t, d, states-2, all)
	for _, k := range ints(0, 1, 1000, states-3) {
		holdAfter(t, d, k, by(states, func(s int) int { return max(0, s+k+2-states) }))
	}
	holdAfter(t, d, greatest, all)
	next := sample.Chances()
	for _, places := range [][]int{sample.Turned(all), sample.Shuffled(all, next)} {
		holdLast(t, renumbered(d, places), states-2, all)
	}
	// Each state twice, or more often, with more classes.
	x, as := sample.Unfolded(row(states/3), states, next)
	holdLast(t, sample.Spread(x, 4, next), states/3-2, quotient.Norm(as))
}

// Lists far longer than there may be states: each call ends soon.
func TestGreatLists(t *testing.T) {
	t.Parallel()
	const far = 1 << 22
	d := quiet(3, 2)
	one := make([]int, far)
	for _, x := range []api.Dfa{
		withRow(d, 0, one), {Of: d.Of, Width: d.Width, Next: d.Next, Label: one}, {Of: d.Of, Width: d.Width, Next: make([][]int, far), Label: one},
		{Of: d.Of, Width: d.Width, Next: slices.Repeat(d.Next[:1], far), Label: one}, {Of: d.Of, Width: d.Width, Next: d.Next, Label: d.Label, Names: make([]string, far)},
		quiet(most+1, 2), leading(2*most, 1, 3),
	} {
		holdNone(t, x)
	}
}

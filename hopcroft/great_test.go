package hopcroft

import (
	"slices"
	"testing"

	"doublet/api"
	"doublet/quotient"
	"doublet/sample"
)

// As many states and classes as there may be: all alike, none alike, and many that are.
func TestGreatBlocks(t *testing.T) {
	t.Parallel()
	one, all := make([]int, most), upTo(0, most)
	holdAlike(t, quiet(most, 256), one)
	holdAlike(t, leading(most, 256, api.MaxRules), all)
	// With fewer classes: no label, one of the last state alone, or of each second one.
	d := leading(most, 32, api.MaxRules)
	clear(d.Label)
	holdParted(t, d, one)
	d.Label[most-1] = 1
	holdParted(t, d, all)
	for s := range d.Label {
		d.Label[s] = s % 2
	}
	holdParted(t, d, rest(most, 2))
	// Rests by a power of two stay such, by sums; which are told by the labels of a smaller machine.
	const few = 1024
	small := leading(few, 32, api.MaxRules)
	for s := range d.Label {
		d.Label[s] = small.Label[s%few]
	}
	holdAlike(t, d, rest(most, few))
}

// Labels alone, as many as there may be, of as many states as there may be.
func TestGreatLabels(t *testing.T) {
	t.Parallel()
	d := quiet(most, 16)
	d.Names, d.Label = called(api.MaxRules), rest(most, api.MaxRules+1)
	holdAlike(t, d, d.Label)
	// One state is told apart from all those that have its label, by the last class.
	d = withNext(d, most-1, 15, 0)
	holdAlike(t, d, by(most, func(s int) int {
		if s == most-1 {
			return api.MaxRules + 1
		}
		return s % (api.MaxRules + 1)
	}))
	// The label 0 and the last one alone.
	d.Label = by(most, func(s int) int { return api.MaxRules * (s % 2) })
	holdSplits(t, d, 1)
}

// A row of as many states as there may be, in four orders, by one class and by many; and such with states of which each one is there several times.
func TestGreatRows(t *testing.T) {
	t.Parallel()
	all, next := upTo(0, most), sample.Chances()
	d := row(most)
	holdAlike(t, d, all)
	for _, places := range [][]int{sample.Turned(all), sample.Shuffled(all, next), by(most, func(s int) int { return s * 40503 % most })} {
		holdAlike(t, renumbered(d, places), all)
	}
	holdAlike(t, sample.Spread(d, 30, next), all)
	for _, states := range ints(2, 1000, most/2, most-1) {
		x, as := sample.Unfolded(row(states), most, next)
		holdAlike(t, x, quotient.Norm(as))
	}
	// Of a row that has no label all are alike, and of one with a label at both ends none are.
	holdAlike(t, withLabels(d, "x", make([]int, most)), make([]int, most))
	holdAlike(t, withLabel(row(most), 0, 1), all)
}

// Rows of states, about how many a few bits have numbers for.
func TestGreatRowsAboutPowers(t *testing.T) {
	t.Parallel()
	for _, power := range ints(8, 9, 10, 12, 15) {
		for states := 1<<power - 2; states <= 1<<power+2; states++ {
			holdEverywhere(t, row(states), upTo(0, states))
			holdAlike(t, ring("x", make([]int, states)...), make([]int, states))
		}
	}
	holdAlike(t, row(most-1), upTo(0, most-1))
}

// fibonacci: so many labels, each of which is there or not as the words 1, 10, 101, 10110 .. go on: such part blocks again and again into two that are about as great as each other.
func fibonacci(labels int) []int {
	one, other := ints(1), ints(1, 0)
	for len(other) < labels {
		one, other = other, slices.Concat(other, one)
	}
	return other[:labels]
}

// Rings of as many states as there may be: with one label, with one at each rest, and with such as part blocks most often.
func TestGreatRings(t *testing.T) {
	t.Parallel()
	for length := most; length > 1; length /= 16 {
		d := ring("x", by(most, func(s int) int { return 1 - min(s%length, 1) })...)
		holdAlike(t, d, rest(most, length))
	}
	// As many as one of these words has: no two turns of it are the same.
	holdAlike(t, ring("x", fibonacci(46368)...), upTo(0, 46368))
	x, as := sample.Unfolded(ring("x", fibonacci(17711)...), most, sample.Chances())
	holdAlike(t, x, quotient.Norm(as))
}

// Bits that go by, and numbers by their bits.
func TestGreatBits(t *testing.T) {
	t.Parallel()
	all := upTo(0, most)
	holdAlike(t, shifted(16), all)
	holdAlike(t, withLabels(shifted(16), "x", rest(most, 2)), rest(most, 2))
	d := sample.Bitwise(16)
	holdAlike(t, d, all)
	holdAlike(t, withLabel(d, 1, 1), by(most, func(s int) int { return max(s-1, 0) }))
	// Two that lead to numbers that are the same but for a bit.
	for bit := range 16 {
		to := 1<<14 + 5
		x := withRow(d, most-3, slices.Repeat(ints(to), 16))
		holdParted(t, withRow(x, most-2, slices.Repeat(ints(to^1<<bit), 16)), all)
		// And two that lead to the same.
		holdParted(t, withRow(x, most-2, slices.Repeat(ints(to), 16)), by(most, func(s int) int { return s - s/(most-2) }))
	}
}

// What the last state alone, by its last class alone, makes another one.
func TestGreatLastOne(t *testing.T) {
	t.Parallel()
	d := quiet(most, 256)
	d.Names = called(1)
	for s, row := range d.Next {
		clear(row)
		d.Label[s] = 1 - min(s, 1)
	}
	holdAlike(t, d, by(most, func(s int) int { return min(s, 1) }))
	d = withNext(d, most-1, 255, 1)
	holdAlike(t, d, by(most, func(s int) int { return min(s, 1) + s/(most-1) }))
	// It is told apart from the state that leads to it, and that one from all others.
	d = withNext(d, most-2, 0, most-1)
	holdAlike(t, d, by(most, func(s int) int { return min(s, 1) + max(s-most+3, 0) }))
}

// As many states as there may be that are as those of a machine of few.
func TestGreatUnfolded(t *testing.T) {
	t.Parallel()
	next := sample.Chances()
	for _, small := range []api.Dfa{leading(100, 4, 20), shifted(7), leading(3, 256, 1), ring("x", append(ints(1), make([]int, 30)...)...), sample.Bitwise(8), leading(5000, 9, 3)} {
		blocks := Blocks(small)
		d, as := sample.Unfolded(small, most, next)
		holdAlike(t, d, quotient.Norm(by(most, func(s int) int { return blocks[as[s]] })))
	}
}

// Where words lead from 0: nowhere else, to half of the states, to all but one.
func TestGreatReach(t *testing.T) {
	t.Parallel()
	// The state 0 leads to itself; a row stands beside it.
	d := withNext(row(most), 0, 0, 0)
	holdAlike(t, d, upTo(0, most))
	small := told(Small(d))
	holdDfa(t, small, ring("x", 0), "Small of a row that no word leads to")
	// A row of the first half, and one of the second, which are alike.
	d = row(most)
	d.Next[most/2-1], d.Label[most/2-1] = ints(most/2-1), 1
	holdAlike(t, d, rest(most, most/2))
	holdDfa(t, told(Small(d)), row(most/2), "Small of two rows")
	d = renumbered(row(most), append(ints(most-1), upTo(0, most-1)...))
	holdAlike(t, d, upTo(0, most))
	holdDfa(t, told(Small(d)), row(most-1), "Small of a row whose first state stands last")
}

// Lists far longer than there may be states: each call ends soon.
func TestGreatLists(t *testing.T) {
	t.Parallel()
	const far = 1 << 22
	d := quiet(3, 2)
	one := make([]int, far)
	for _, x := range []api.Dfa{
		withRow(d, 0, one), {Of: d.Of, Width: d.Width, Next: d.Next, Label: one}, {Of: d.Of, Width: d.Width, Next: make([][]int, far), Label: one},
		{Of: d.Of, Width: d.Width, Next: slices.Repeat(d.Next[:1], far), Label: one}, {Of: d.Of, Width: d.Width, Next: d.Next, Label: d.Label, Names: make([]string, far)},
		quiet(most+1, 2), leading(2*most, 1, 3),
	} {
		holdNone(t, x)
	}
}

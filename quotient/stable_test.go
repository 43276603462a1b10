package quotient

import (
	"slices"
	"testing"

	"doublet/api"
	"doublet/sample"
)

// tree: a machine of seven states and two classes: 0 leads to 1 and 2, these to 3 to 6, which stay. The ends have the label 1, but for one, if another one is told.
func tree(odd int) api.Dfa {
	d := rows("x y", ints(0, 0, 0, 1, 1, 1, 1), ints(1, 2), ints(3, 4), ints(5, 6), ints(3, 3), ints(4, 4), ints(5, 5), ints(6, 6))
	if odd > 0 {
		d.Label[odd] = 2
	}
	return d
}

func TestP2303StableWrittenOut(t *testing.T) {
	for _, r := range []struct {
		d    api.Dfa
		l    []int
		want bool
	}{
		// Each state alone, all in one block.
		{quiet(1, 1), ints(0), true}, {quiet(1, 256), ints(-9), true}, {ring("x", 1), ints(3), true}, {tree(0), upTo(0, 7), true}, {tree(6), upTo(0, 7), true},
		{ring("", 0, 0, 0), ints(4, 4, 4), true}, {ring("x", 1, 1, 1), ints(4, 4, 4), true}, {ring("x", 1, 1, 0), ints(4, 4, 4), false}, {ring("x y", 1, 1, 2), ints(4, 4, 4), false}, {tree(0), make([]int, 7), false},
		// Levels; parts of a level.
		{tree(0), ints(0, 1, 1, 2, 2, 2, 2), true}, {tree(0), ints(0, 1, 2, 3, 3, 3, 3), true}, {tree(0), ints(0, 1, 2, 3, 4, 3, 4), true}, {tree(0), ints(0, 1, 1, 3, 4, 3, 4), true},
		{tree(0), ints(0, 1, 1, 3, 4, 4, 3), false}, {tree(0), ints(0, 1, 1, 3, 3, 4, 4), false}, {tree(0), ints(0, 1, 2, 3, 3, 4, 4), true}, {tree(0), ints(0, 1, 1, 2, 2, 2, 3), false}, {tree(0), ints(0, 1, 1, 2, 3, 3, 3), false},
		{tree(0), ints(0, 0, 1, 2, 2, 2, 2), false}, {tree(0), ints(0, 1, 0, 2, 2, 2, 2), false}, {tree(0), ints(0, 1, 1, 1, 2, 2, 2), false},
		// A label keeps two states apart, and so those ahead of them.
		{tree(6), ints(0, 1, 1, 2, 2, 2, 2), false}, {tree(6), ints(0, 1, 1, 2, 2, 2, 3), false}, {tree(6), ints(0, 1, 4, 2, 2, 2, 3), true}, {tree(3), ints(0, 1, 2, 3, 4, 4, 4), true}, {tree(3), ints(0, 1, 2, 3, 3, 4, 4), false},
		// States in one block that lead to each other, to the block, out of it.
		{rows("", ints(0, 0), ints(1), ints(0)), ints(0, 0), true}, {rows("", ints(0, 0, 0), ints(1), ints(0), ints(2)), ints(0, 0, 1), true}, {rows("", ints(0, 0, 0), ints(1), ints(2), ints(2)), ints(0, 0, 1), false},
		{rows("", ints(0, 0, 0), ints(1), ints(2), ints(2)), ints(0, 1, 1), true}, {rows("", ints(0, 0, 0), ints(1), ints(2), ints(0)), ints(0, 1, 1), false}, {rows("", ints(0, 0, 0), ints(1), ints(2), ints(0)), ints(0, 1, 0), false},
		// Two labels that are not none; a label, and none; two blocks with one label.
		{rows("x y", ints(1, 2), ints(0), ints(0)), ints(0, 0), false}, {rows("x y", ints(2, 2), ints(0), ints(0)), ints(0, 0), true}, {rows("x y", ints(0, 2), ints(0), ints(0)), ints(0, 0), false}, {rows("x y", ints(2, 2), ints(0), ints(1)), ints(0, 1), true},
	} {
		holdStable(t, r.d, r.l, r.want)
		for _, turn := range turns() {
			holdStable(t, r.d, turned(modelNorm(r.l), turn), r.want)
		}
	}
}

// A ring without labels has just the blocks of states that have one rest by a number that its length has; with labels that have a rest just those of which that one has the rest.
func TestP2303StableRings(t *testing.T) {
	t.Parallel()
	for states := 1; states <= 8; states++ {
		all := partitions(states)
		for labels := 1; labels <= states; labels++ {
			if states%labels != 0 {
				continue
			}
			d := ring("", rest(states, labels)...)
			d.Names = called(labels)
			stable := 0
			for _, l := range all {
				length := slices.Max(l) + 1
				want := states%length == 0 && length%labels == 0 && slices.Equal(l, rest(states, length))
				if holdStable(t, d, l, want); want {
					stable++
				}
				if wrong := (map[bool]api.Errno{true: api.OK, false: api.ErrArg})[want]; told(Of(d, l)).wrong != wrong {
					t.Errorf("Of, by %s, does not tell %d, of %s", many(l), wrong, brief(d))
				}
			}
			if stable == 0 || states == 8 && labels == 1 && stable != 4 {
				t.Errorf("%d blocks are Stable of %s", stable, brief(d))
			}
		}
	}
}

// Where each state leads to itself alone the blocks are Stable that are finer than the labels.
func TestP2303StableQuiet(t *testing.T) {
	t.Parallel()
	all := partitions(6)
	for _, labels := range all {
		for _, width := range []int{1, 3} {
			d := quiet(6, width)
			d.Label, d.Names = labels, called(slices.Max(labels))
			for _, l := range all {
				holdStable(t, d, l, modelFiner(l, labels))
			}
		}
	}
}

// Too few numbers, too many, none.
func TestP2303StableNumbers(t *testing.T) {
	t.Parallel()
	for _, states := range []int{1, 2, 3, 7, 256} {
		d := quiet(states, 2)
		for _, n := range []int{0, 1, 2, 3, states - 1, states, states + 1, 2 * states, states + 256, most, 1 << 20} {
			for _, l := range [][]int{upTo(0, n), make([]int, n), rest(n, 2)} {
				if n == states {
					holdStable(t, d, l, true)
					continue
				}
				holdOfError(t, d, l, api.ErrArg)
			}
		}
		holdOfError(t, d, nil, api.ErrArg)
		holdOfError(t, d, ints(), api.ErrArg)
	}
}

// twice: a machine in which a state, and the one that is so many further on, are in one block. By all classes they lead to such as are in one block, mostly to two.
func twice(half, width int) (api.Dfa, []int) {
	d := quiet(2*half, width)
	d.Names = called(3)
	for s, row := range d.Next {
		for class := range row {
			row[class] = (s+class*3)%half + half*((s+class)%2)
		}
		d.Label[s] = s % half % 4
	}
	return d, rest(2*half, half)
}

// ends: the first, the second, a middle, and the last one of so many places.
func ends(n int) []int {
	return slices.Compact(slices.Sorted(slices.Values(ints(0, min(1, n-1), n/2, n-1))))
}

// One state behind one, by the first class, a middle one or the last one, of the first state, a middle one or the last one, keeps blocks from being Stable; and so does one label.
func TestP2303StableOneOther(t *testing.T) {
	t.Parallel()
	for _, width := range []int{1, 2, 3, 255, 256} {
		for _, half := range []int{1, 2, 5} {
			d, l := twice(half, width)
			holdStable(t, d, l, true)
			alone := upTo(0, 2*half)
			for _, s := range ends(2 * half) {
				for _, class := range ends(width) {
					for to := range 2 * half {
						x := withNext(d, s, class, to)
						holdStable(t, x, l, to%half == d.Next[s][class]%half)
						holdStable(t, x, alone, true)
						// With its own block of one, and the other state's, they are Stable unless another one leads to it.
						own := slices.Clone(l)
						own[s] = -1
						holdStable(t, x, own, modelStable(x, own))
					}
				}
				for label := range 4 {
					x := withLabel(d, s, label)
					holdStable(t, x, l, label == d.Label[s])
					holdStable(t, x, alone, true)
					if label != d.Label[s] {
						holdOfError(t, x, l, api.ErrArg)
					}
				}
			}
		}
	}
}

// The last state alone, of a block of many, is another one than all the others.
func TestP2303StableGreatBlocks(t *testing.T) {
	t.Parallel()
	for _, states := range []int{3, 100, 5000} {
		d := quiet(states, 3)
		d.Names = called(1)
		for s, row := range d.Next {
			row[0], row[1], row[2] = (s+1)%states, s/2, 0
		}
		one := make([]int, states)
		holdStable(t, d, one, true)
		holdStable(t, withLabel(d, states-1, 1), one, false)
		holdStable(t, withLabel(d, 0, 1), one, false)
		two := slices.Clone(one)
		two[states-1] = 1
		holdStable(t, d, two, false)
		for s := range d.Next {
			d.Next[s] = ints(states-1, 0, states/2)
		}
		holdStable(t, d, two, true)
		for _, s := range ends(states - 1) {
			holdStable(t, withNext(d, s, 0, 0), two, false)
			holdStable(t, withNext(d, s, 1, states-1), two, false)
			holdStable(t, withNext(d, s, 2, states-1), two, false)
			holdStable(t, withNext(d, s, 2, 0), two, true)
		}
		holdStable(t, withNext(d, states-1, 0, 0), two, true)
		holdStable(t, withLabel(d, states-1, 1), two, true)
	}
}

// Random blocks that are Stable, with one number of the machine made another one.
func TestP2303StableRandom(t *testing.T) {
	t.Parallel()
	next := sample.Chances()
	is := [2]int{}
	for i := range 3000 {
		d, l := anyMachine(1+i%12, next)
		holdStable(t, d, l, true)
		s := next(len(d.Label))
		x := withNext(d, s, next(d.Width), next(len(d.Label)))
		if next(3) == 0 {
			x = withLabel(d, s, next(len(d.Names)+1))
		}
		want := modelStable(x, l)
		holdStable(t, x, l, want)
		count(&is, want)
	}
	if min(is[0], is[1]) < 500 {
		t.Errorf("so often blocks were not Stable any more, and were: %v", is)
	}
}

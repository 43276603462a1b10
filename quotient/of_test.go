package quotient

import (
	"slices"
	"testing"

	"doublet/api"
	"doublet/sample"
)

func TestP2303OfWrittenOut(t *testing.T) {
	// Each state alone: the same machine, also with names that no state has.
	for _, d := range []api.Dfa{quiet(1, 1), quiet(1, 256), quiet(9, 3), ring("x y", 1, 2, 0), tree(0), tree(5), leading(70, 7, 64), leading(5, 256, 3)} {
		holdOf(t, d, upTo(0, len(d.Label)), d)
	}
	// All in one block: a machine of one state.
	holdOf(t, ring("x y z", 2, 2, 2), ints(5, 5, 5), ring("x y z", 2))
	holdOf(t, quiet(100, 256), make([]int, 100), quiet(1, 256))
	// Levels, and sides.
	holdOf(t, tree(0), ints(0, 1, 1, 2, 2, 2, 2), rows("x y", ints(0, 0, 1), ints(1, 1), ints(2, 2), ints(2, 2)))
	holdOf(t, tree(0), ints(0, 1, 1, 2, 3, 2, 3), rows("x y", ints(0, 0, 1, 1), ints(1, 1), ints(2, 3), ints(2, 2), ints(3, 3)))
	holdOf(t, tree(6), ints(0, 1, 4, 2, 2, 2, 3), rows("x y", ints(0, 0, 0, 1, 2), ints(1, 2), ints(3, 3), ints(3, 4), ints(3, 3), ints(4, 4)))
	// 0 is in one block with the last one; rows lead into the own block, to a later one and to an earlier one.
	holdOf(t, ring("x", 1, 0, 1, 0), ints(0, 1, 0, 1), ring("x", 1, 0))
	holdOf(t, rows("x", ints(0, 1, 1, 0), ints(3, 1), ints(1, 0), ints(2, 3), ints(0, 2)), ints(0, 1, 1, 0), rows("x", ints(0, 1), ints(0, 1), ints(1, 0)))
	holdOf(t, rows("", ints(0, 0, 0, 0, 0), ints(4, 1, 2), ints(1, 1, 3), ints(3, 1, 0), ints(2, 1, 4), ints(0, 1, 3)), ints(0, 1, 2, 2, 0), rows("", ints(0, 0, 0), ints(0, 1, 2), ints(1, 1, 2), ints(2, 1, 0)))
	// Blocks are numbered by their least states, not by their numbers, nor as they are met.
	holdOf(t, rows("x y", ints(0, 1, 2, 1), ints(2), ints(3), ints(1), ints(3)), ints(3, 1, 2, 1), rows("x y", ints(0, 1, 2), ints(2), ints(1), ints(1)))
	holdOf(t, rows("x y", ints(0, 1, 2, 1), ints(2), ints(3), ints(1), ints(3)), ints(-3, greatest, least, greatest), rows("x y", ints(0, 1, 2), ints(2), ints(1), ints(1)))
	// States to which no word comes stay, if they are in a block of their own.
	holdOf(t, rows("x y", ints(0, 1, 1, 2), ints(0), ints(2), ints(1), ints(3)), ints(0, 1, 1, 2), rows("x y", ints(0, 1, 2), ints(0), ints(1), ints(2)))
}

// The classes and the names stay as they were, whatever they are.
func TestP2303OfAllElse(t *testing.T) {
	t.Parallel()
	next := sample.Chances()
	for i := range 600 {
		d := sample.AnyDfa(1+next(10), next)
		d.Names = called(i % (api.MaxRules + 1))
		for s := range d.Label {
			d.Label[s] = next(len(d.Names) + 1)
		}
		x, as := sample.Unfolded(d, len(d.Label)+next(10), next)
		// The states of d, in the order of the first ones of x.
		var order []int
		for _, one := range as {
			if !slices.Contains(order, one) {
				order = append(order, one)
			}
		}
		want := d
		want.Next, want.Label = nil, nil
		for _, one := range order {
			row := by(d.Width, func(class int) int { return slices.Index(order, d.Next[one][class]) })
			want.Next, want.Label = append(want.Next, row), append(want.Label, d.Label[one])
		}
		holdOf(t, x, as, want)
		if t.Failed() {
			return
		}
	}
}

// By what Of made of blocks, by coarser ones, comes what Of makes of the coarser ones at once.
func TestP2303OfTwice(t *testing.T) {
	t.Parallel()
	next := sample.Chances()
	for range 600 {
		d := sample.AnyDfa(1+next(5), next)
		middle, one := sample.Unfolded(d, len(d.Label)+next(5), next)
		x, as := sample.Unfolded(middle, len(middle.Label)+next(8), next)
		direct := by(len(as), func(s int) int { return one[as[s]] })
		want, wrong := Of(x, direct)
		step, no := Of(x, as)
		// Which block of one each state of the step is in: that of any state of its block.
		normal := modelNorm(as)
		coarse := by(len(step.Label), func(block int) int { return direct[slices.Index(normal, block)] })
		if wrong != api.OK || no != api.OK {
			t.Fatalf("Of tells %d, and %d, of %s", wrong, no, brief(x))
		}
		if holdDfa(t, told(Of(step, coarse)), want, "Of, twice, of %s", brief(x)); t.Failed() {
			return
		}
	}
}

// ErrKind comes first, for whatever fault, whether the blocks are Stable, or wrong as well.
func TestP2303OfErrKind(t *testing.T) {
	t.Parallel()
	met := map[string]int{}
	sample.EachWrongDfa(func(fault string, d api.Dfa) {
		met[fault]++
		states := len(d.Label)
		for _, l := range [][]int{nil, ints(0), upTo(0, states), make([]int, states), upTo(0, states+1), upTo(0, len(d.Next)), d.Label} {
			holdOfError(t, d, l, api.ErrKind)
		}
	})
	if len(met) < 10 {
		t.Errorf("so often each fault is met: %v", met)
	}
	// A fault in a state whose block would be Stable without it, and in one that is alone.
	d := tree(0)
	for _, x := range []api.Dfa{withLabel(d, 6, 3), withLabel(d, 6, -1), withNext(d, 6, 1, 7), withNext(d, 6, 1, -1), withRow(d, 6, ints(6)), withRow(d, 6, ints(6, 6, 6)), withRow(d, 3, nil), withName(d, 1, "x"), withName(d, 1, "")} {
		for _, l := range [][]int{upTo(0, 7), ints(0, 1, 1, 2, 2, 2, 2), make([]int, 7), ints(0, 1), nil, make([]int, 8)} {
			holdOfError(t, x, l, api.ErrKind)
		}
	}
}

// Blocks that are not Stable, and numbers that are not as many as states: ErrArg.
func TestP2303OfErrArg(t *testing.T) {
	t.Parallel()
	for _, l := range [][]int{
		nil, {}, {0}, upTo(0, 6), upTo(0, 8), make([]int, 6), make([]int, 8), make([]int, 7), {0, 1, 1, 3, 4, 4, 3}, {0, 1, 1, 2, 2, 2, 3}, {0, 1, 2, 2, 3, 4, 5}, {0, 1, 0, 2, 2, 2, 2},
		{least, greatest, 0, 0, 5, 5, 5}, make([]int, most), make([]int, most+1), upTo(0, 1<<20),
	} {
		holdOfError(t, tree(0), l, api.ErrArg)
	}
	holdOfError(t, ring("x", 1, 0), ints(0, 0), api.ErrArg)
	holdOfError(t, ring("", 0, 0, 0), ints(0, 1, 1), api.ErrArg)
	holdOfError(t, ring("", 0, 0, 0), ints(1, 0, 1), api.ErrArg)
	holdOfError(t, ring("", 0, 0, 0, 0), ints(0, 0, 1, 1), api.ErrArg)
}

// As many states as there may be: each alone, all in one, in two, in few, in many.
func TestP2303OfMaxStates(t *testing.T) {
	t.Parallel()
	d := ring("", make([]int, most)...)
	d.Names = called(api.MaxRules)
	for s := range d.Label {
		d.Label[s] = s % 64
	}
	hold := func(l []int, want api.Dfa) {
		t.Helper()
		holdStable(t, d, l, true)
		holdDfa(t, told(Of(d, l)), want, "Of, by %s", many(l))
	}
	hold(upTo(0, most), d)
	hold(by(most, func(s int) int { return -s }), d)
	for _, length := range []int{64, 1024, most / 2} {
		want := ring("", rest(length, 64)...)
		want.Names = d.Names
		hold(rest(most, length), want)
	}
	for _, length := range []int{1, 2, 32, 63, 65, 96, most - 1} {
		holdOfError(t, d, rest(most, length), api.ErrArg)
	}
	holdOfError(t, d, upTo(0, most-1), api.ErrArg)
	holdOfError(t, d, upTo(0, most+1), api.ErrArg)
	x := quiet(most, 2)
	holdStable(t, x, make([]int, most), true)
	holdDfa(t, told(Of(x, make([]int, most))), quiet(1, 2), "Of one block")
	holdOfError(t, quiet(most+1, 2), make([]int, most+1), api.ErrKind)
}

package label

import (
	"slices"
	"testing"

	"doublet/api"
	"doublet/dfa"
	"doublet/sample"
)

func ints(l ...int) []int { return l }

func TestP2204PlusWrittenOut(t *testing.T) {
	// One state.
	holdPlus(t, ring("x", 1), rows("x", ints(0, 1), ints(1), ints(1)))
	// Rows that lead back to 0, to themselves, to the last one.
	holdPlus(t, ring("x y", 2, 1, 0), rows("x y", ints(0, 2, 1, 0), ints(2), ints(2), ints(3), ints(1)))
	holdPlus(t, rows("x y", ints(1, 2, 2), ints(0, 1, 2), ints(0, 1, 2), ints(2, 1, 0)), rows("x y", ints(0, 1, 2, 2), ints(1, 2, 3), ints(1, 2, 3), ints(1, 2, 3), ints(3, 2, 1)))
	holdPlus(t, rows("x", ints(1, 0), ints(0, 0), ints(1, 1)), rows("x", ints(0, 1, 0), ints(1, 1), ints(1, 1), ints(2, 2)))
	holdPlus(t, rows("x", ints(1, 0), ints(1, 1), ints(1, 1)), rows("x", ints(0, 1, 0), ints(2, 2), ints(2, 2), ints(2, 2)))
	holdPlus(t, rows("x", ints(1, 1, 1, 1), ints(3, 0), ints(1, 3), ints(2, 0), ints(3, 3)), rows("x", ints(0, 1, 1, 1, 1), ints(4, 1), ints(4, 1), ints(2, 4), ints(3, 1), ints(4, 4)))
	// States to which no word comes, and names that no state has, stay.
	holdPlus(t, rows("x y z", ints(3, 1), ints(0), ints(0)), rows("x y z", ints(0, 3, 1), ints(1), ints(1), ints(1)))
	// The first label, and the last one.
	for _, label := range []int{1, 64} {
		d := ring("", label, 0)
		d.Names = called(64)
		want := rows("", ints(0, label, 0), ints(2), ints(2), ints(1))
		want.Names = d.Names
		holdPlus(t, d, want)
	}
}

// Without a label at 0 nothing changes, wherever else labels are.
func TestP2204PlusTheSame(t *testing.T) {
	t.Parallel()
	for _, d := range []api.Dfa{ring("x", 0), ring("", 0), ring("x", 0, 1), ring("x y", 0, 1, 2, 2, 1), quiet(1, 256), quiet(9, 3), leading(300, 7, 5), rows("x", ints(0, 1), ints(0, 1), ints(0, 0))} {
		holdPlus(t, d, d)
	}
	next := sample.Chances()
	for range 300 {
		d := sample.AnyDfa(1+next(20), next)
		d.Label[0] = 0
		holdPlus(t, d, d)
	}
}

// With one there is one state more, to which nothing leads, which goes on as the one that was 0 did.
func TestP2204PlusOneMore(t *testing.T) {
	t.Parallel()
	next := sample.Chances()
	for range 500 {
		d := sample.AnyDfa(1+next(20), next)
		d.Names = called(1 + next(64))
		for s := range d.Label {
			d.Label[s] = next(len(d.Names) + 1)
		}
		d.Label[0] = 1 + next(len(d.Names))
		x, wrong := Plus(d)
		if wrong != api.OK || !dfa.Right(x) || len(x.Label) != len(d.Label)+1 || x.Label[0] != 0 || !slices.Equal(x.Label[1:], d.Label) || x.Of != d.Of || x.Width != d.Width || !slices.Equal(x.Names, d.Names) {
			t.Fatalf("Plus tells %d, and\n%s, of\n%s", wrong, brief(x), brief(d))
		}
		for s, row := range x.Next {
			for class, to := range row {
				if was := d.Next[max(s-1, 0)][class]; to != was+1 {
					t.Fatalf("behind %d stands %d by %d, and %d stood there, of\n%s", s, to, class, was, brief(d))
				}
			}
		}
		holdPlus(t, d, x)
		if got, want := len(dfa.Reach(x)), len(dfa.Reach(d)); got != want && got != want+1 {
			t.Fatalf("Plus comes to %d states, and there were %d, of %s", got, want, brief(d))
		}
	}
}

// As many states as there may be, one less, and few more: ErrBig just where one would have to be added.
func TestP2204PlusMaxStates(t *testing.T) {
	t.Parallel()
	for _, width := range []int{1, 3} {
		for _, states := range []int{most - 2, most - 1, most} {
			d := leading(states, width, 64)
			holdPlus(t, d, d)
			d.Label[0] = 64
			if states == most {
				holdError(t, told(Plus(d)), api.ErrBig, "Plus of %d states", states)
				continue
			}
			x, wrong := Plus(d)
			want, _ := modelPlus(d)
			holdDfa(t, told(x, wrong), want, "Plus of %d states", states)
			holdDfa(t, told(Plus(x)), x, "Plus of what Plus tells, of %d states", states)
			x.Label[0] = 1
			if states == most-1 {
				holdError(t, told(Plus(x)), api.ErrBig, "Plus of what Plus told, with a label")
			}
		}
		for _, states := range []int{most + 1, most + 2, 1 << 17} {
			d := leading(states, width, 64)
			holdError(t, told(Plus(d)), api.ErrKind, "Plus of %d states", states)
			d.Label[0] = 64
			holdError(t, told(Plus(d)), api.ErrKind, "Plus of %d states, with a label", states)
		}
	}
	// Only labels at 0 count.
	d := quiet(most, 1)
	d.Names, d.Label = called(2), slices.Repeat([]int{2}, most)
	holdError(t, told(Plus(d)), api.ErrBig, "Plus of labels everywhere")
	d.Label[0] = 0
	holdPlus(t, d, d)
}

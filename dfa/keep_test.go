package dfa

import (
	"slices"
	"testing"

	"doublet/api"
	"doublet/sample"
)

func TestP2004KeepWrittenOut(t *testing.T) {
	d := ab()
	d.Names = []string{"one", "two"}
	d.Label = []int{2, 1, 0, 0, 1}
	made := func(labels []int, rows ...[]int) api.Dfa {
		return api.Dfa{Of: d.Of, Width: 3, Next: rows, Label: labels, Names: []string{"one", "two"}}
	}
	holdKeep(t, d, []int{0, 1, 2, 3, 4}, d)
	holdKeep(t, d, []int{0, 3, 2, 4}, made([]int{2, 0, 0, 1}, []int{1, 2, 1}, []int{1, 1, 1}, []int{1, 1, 3}, []int{1, 2, 1}))
	holdKeep(t, d, []int{0, 2, 3, 4}, made([]int{2, 0, 0, 1}, []int{2, 1, 2}, []int{2, 2, 3}, []int{2, 2, 2}, []int{2, 1, 2}))
	holdKeep(t, d, []int{0, 4, 3, 2, 1}, made([]int{2, 1, 0, 0, 1}, []int{2, 3, 2}, []int{2, 3, 2}, []int{2, 2, 2}, []int{2, 2, 1}, []int{4, 4, 0}))
	holdKeep(t, d, []int{0, 1, 4, 3, 2}, made([]int{2, 1, 1, 0, 0}, []int{3, 4, 3}, []int{1, 1, 0}, []int{3, 4, 3}, []int{3, 3, 3}, []int{3, 3, 2}))
	// Names that no state has any more stay, and so do classes that nothing tells apart.
	x := withLabel(withNext(withNext(d, 0, 0, 0), 0, 1, 0), 0, 0)
	x = withNext(x, 0, 2, 0)
	holdKeep(t, x, []int{0}, made([]int{0}, []int{0, 0, 0}))
	holdKeep(t, quiet(1, 1), []int{0}, quiet(1, 1))
	holdKeep(t, quiet(1, 256), []int{0}, quiet(1, 256))
}

// Lists that have not some of the states, each once, 0 first, and each state behind one of them.
func TestP2004KeepErrors(t *testing.T) {
	d := ab()
	wrong := [][]int{
		nil, {}, {3}, {0}, {0, 3}, {0, 3, 2}, {0, 2, 4}, {0, 3, 4}, {3, 0, 2, 4}, {3, 2, 4}, {4, 0, 3, 2}, {1, 0, 2, 3, 4}, {1, 2, 3, 4},
		{0, 3, 2, 4, 4}, {0, 3, 3, 2, 4}, {0, 0, 3, 2, 4}, {0, 3, 2, 4, 0}, {0, 0}, {0, 1, 2, 3, 4, 1}, {0, 1, 2, 3, 4, 0},
		{0, 3, 2, 5}, {0, 3, 2, 4, 5}, {0, 3, 2, -1}, {0, 3, 2, 4, -1}, {-1, 0, 3, 2, 4}, {5, 0, 3, 2, 4}, {0, 3, 2, 4, least}, {0, 3, 2, 4, greatest}, {0, least, 3, 2, 4}, {greatest, 0},
		{0, 3, 2, 4, 1 << 32}, {0, 3, 2, 4, 1<<32 + 1}, {0, 3, 2, 4, -5}, {0, 3, 2, 4, 65536},
	}
	for _, l := range wrong {
		holdKeepError(t, d, l, api.ErrArg)
		// ErrKind comes first, whatever the list is.
		for _, x := range []api.Dfa{withLabel(d, 1, 2), withNext(d, 1, 1, 5), {}, withName(d, 0, "")} {
			holdKeepError(t, x, l, api.ErrKind)
		}
	}
	for _, x := range []api.Dfa{withLabel(d, 1, 2), withNext(d, 1, 1, 5), {}, withName(d, 0, "")} {
		holdKeepError(t, x, []int{0, 3, 2, 4}, api.ErrKind)
		holdKeepError(t, x, []int{0, 1, 2, 3, 4}, api.ErrKind)
	}
	// Many numbers more than there are states.
	holdKeepError(t, d, slices.Repeat([]int{0, 1, 2, 3, 4}, 1<<20), api.ErrArg)
	holdKeepError(t, d, upTo(0, 1<<20), api.ErrArg)
	holdKeepError(t, d, make([]int, 1<<20), api.ErrArg)
}

// A list that is right, with each number at each place made each other one; one number more, or less, at each place.
func TestP2004KeepOneWrong(t *testing.T) {
	t.Parallel()
	d := leading(7, 3, 5)
	right := []int{0, 4, 1, 6, 5, 2, 3}
	want, _ := modelOf(d).keep(right)
	holdKeep(t, d, right, want)
	for at := range right {
		holdKeepError(t, d, slices.Delete(slices.Clone(right), at, at+1), api.ErrArg)
		for _, n := range append(outsides(7), upTo(0, 7)...) {
			holdKeepError(t, d, slices.Insert(slices.Clone(right), at, n), api.ErrArg)
			l := slices.Clone(right)
			if l[at] = n; n != right[at] {
				holdKeepError(t, d, l, api.ErrArg)
			}
		}
	}
	for _, n := range append(outsides(7), upTo(0, 7)...) {
		holdKeepError(t, d, append(slices.Clone(right), n), api.ErrArg)
	}
}

// A state behind one, by one class alone, that is not kept: at the first, a middle, and the last place.
func TestP2004KeepNotClosed(t *testing.T) {
	t.Parallel()
	for _, width := range []int{1, 2, 3, 255, 256} {
		d := labels(quiet(9, width), 2, 7)
		l := []int{0, 5, 2, 7, 3}
		for _, s := range l {
			for _, class := range []int{0, width / 2, width - 1} {
				for to := range 9 {
					x := withNext(d, s, class, to)
					want, wrong := modelOf(x).keep(l)
					if slices.Contains(l, to) != (wrong == api.OK) {
						t.Errorf("the model has %d", wrong)
					}
					if wrong != api.OK {
						holdKeepError(t, x, l, api.ErrArg)
						continue
					}
					holdKeep(t, x, l, want)
				}
			}
		}
		// What is not kept may lead where it likes.
		for _, s := range []int{1, 4, 6, 8} {
			for to := range 9 {
				x := withRow(d, s, slices.Repeat([]int{to}, width))
				want := api.Dfa{Of: d.Of, Width: width, Label: []int{0, 0, 1, 1, 0}, Names: d.Names}
				for place := range 5 {
					want.Next = append(want.Next, slices.Repeat([]int{place}, width))
				}
				holdKeep(t, x, l, want)
			}
		}
	}
}

// All orders of the states of small machines: those with 0 first are kept, and kept back again.
func TestP2004KeepOrders(t *testing.T) {
	t.Parallel()
	next := sample.Chances()
	for i := range 60 {
		states := 1 + i%5
		d := sample.AnyDfa(states, next)
		m := modelOf(d)
		for _, l := range permuted(upTo(0, states)) {
			if l[0] != 0 {
				holdKeepError(t, d, l, api.ErrArg)
				continue
			}
			want, wrong := m.keep(l)
			if wrong != api.OK {
				t.Errorf("the model has %d", wrong)
			}
			holdKeep(t, d, l, want)
			back := make([]int, states)
			for place, s := range l {
				back[s] = place
			}
			holdKeep(t, want, back, d)
		}
	}
}

// Of a machine of as many states as may be: all, in several orders, and some.
func TestP2004KeepMaxStates(t *testing.T) {
	t.Parallel()
	d := leading(most, 3, 64)
	holdKeep(t, d, upTo(0, most), d)
	holdKeepError(t, d, upTo(0, most-1), api.ErrArg)
	holdKeepError(t, d, upTo(0, most+1), api.ErrArg)
	holdKeepError(t, d, append(upTo(0, most), 0), api.ErrArg)
	holdKeepError(t, d, append(upTo(0, most), most-1), api.ErrArg)
	falling := append([]int{0}, backTo(1, most)...)
	turned, wrong := Keep(d, falling)
	if wrong != api.OK || turned.Label[1] != d.Label[most-1] || turned.Next[0][0] != most-1 || turned.Next[most-1][0] != most-2 || !Right(turned) {
		t.Errorf("Keep of falling states tells %d", wrong)
	}
	holdKeep(t, turned, falling, d)
	loops := labels(quiet(most, 2), 77)
	holdKeep(t, loops, []int{0}, labels(quiet(1, 2)))
	holdKeep(t, loops, []int{0, most - 1, 77}, labels(quiet(3, 2), 2))
}

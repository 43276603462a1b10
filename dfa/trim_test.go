package dfa

import (
	"slices"
	"testing"

	"doublet/api"
	"doublet/sample"
)

func TestP2004TrimWrittenOut(t *testing.T) {
	holdTrim(t, ab(), made("ab", []int{0, 0, 0, 1}, []int{1, 2, 1}, []int{1, 1, 1}, []int{1, 1, 3}, []int{1, 2, 1}))
	// At all states, in their order: nothing changes.
	for _, d := range []api.Dfa{quiet(1, 1), quiet(1, 256), leading(9, 1, 3), unary(1, 2, 0), unary(1, 2, 2)} {
		holdTrim(t, d, d)
	}
	// At all, in another order.
	d := unary(2, 0, 1)
	d.Names, d.Label = called(2), []int{0, 1, 2}
	want := unary(1, 2, 0)
	want.Names, want.Label = called(2), []int{0, 2, 1}
	holdTrim(t, d, want)
	// At 0 alone, with and without a label; the names stay.
	for label := range 3 {
		x := withLabel(leading(5, 2, 2), 0, label)
		x = withRow(x, 0, []int{0, 0})
		only := quiet(1, 2)
		only.Names, only.Label = called(2), []int{label}
		holdTrim(t, x, only)
	}
	// At some, of which none has a label.
	d = made("a", []int{0, 3, 0, 1}, []int{2, 0}, []int{0, 0}, []int{2, 0}, []int{1, 1})
	want = made("a", []int{0, 0}, []int{1, 0}, []int{1, 0})
	want.Names = called(3)
	holdTrim(t, d, want)
}

// holdTrimmed: Trim tells the same of words, and has no state at which it may not be.
func holdTrimmed(t *testing.T, d api.Dfa, words []string) {
	t.Helper()
	x, wrong := Trim(d)
	if wrong != api.OK || !Right(x) || x.Of != d.Of || x.Width != d.Width || !slices.Equal(x.Names, d.Names) {
		t.Errorf("Trim tells %d, and %s, of %s", wrong, brief(x), brief(d))
		return
	}
	for _, text := range words {
		w := []byte(text)
		if Tell(x, w) != Tell(d, w) || Name(x, w) != Name(d, w) {
			t.Errorf("of %q Trim tells %d, %q, and was told %d, %q, of %s", front(text), Tell(x, w), Name(x, w), Tell(d, w), Name(d, w), brief(d))
		}
	}
	reach := Reach(d)
	if len(x.Label) != len(reach) {
		t.Errorf("Trim has %d states, and there are %d, of %s", len(x.Label), len(reach), brief(d))
	}
	holdReach(t, x, upTo(0, len(reach))...)
	holdTrim(t, x, x)
	holdKeep(t, d, reach, x)
}

// All small machines, with all short words.
func TestP2005SmallMachines(t *testing.T) {
	t.Parallel()
	words := sample.AllWords("ab", 3)
	eachSmall(func(d api.Dfa) {
		if !t.Failed() {
			holdTrimmed(t, d, words)
		}
	})
}

func TestP2005RandomMachines(t *testing.T) {
	t.Parallel()
	next := sample.Chances()
	met := map[int]int{}
	for i := range 400 {
		d := sample.AnyDfa(1+next(1+i%40), next)
		holdTrimmed(t, d, sample.ClassWords(d, next))
		met[min(1, len(d.Label)-len(Reach(d)))]++
		if t.Failed() {
			return
		}
	}
	if min(met[0], met[1]) < 100 {
		t.Errorf("so often states went: %v", met)
	}
	for _, states := range []int{1000, 5000} {
		for range 6 {
			d := sample.AnyDfa(states, next)
			holdTrimmed(t, d, []string{"", "a", "b", "ab", "\x00\xff", sample.AnyWord(1000, sample.Edgy, next)})
		}
	}
}

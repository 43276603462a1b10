package match

import (
	"math"
	"slices"
	"strings"
	"testing"

	"doublet/api"
	"doublet/sample"
	"doublet/texts"
)

const (
	greatest = math.MaxInt
	least    = math.MinInt
)

// Short names for what most trees are made of.
var (
	a, b, c, e       = sample.A, sample.B, sample.C, sample.Empty
	none, hole, leaf = sample.None, sample.Hole, sample.Leaf
	of, rep          = sample.Of, sample.Rep
	within           = sample.Within

	allWords, anyWord, spoken = sample.AllWords, sample.AnyWord, sample.Spoken

	read, brief = texts.Tree, texts.Brief
)

// many: a word again and again.
func many(n int, w string) string { return strings.Repeat(w, n) }

// upTo: the numbers from lo to hi, each once in so many.
func upTo(lo, hi, step int) []int {
	var l []int
	for n := lo; n <= hi; n += step {
		l = append(l, n)
	}
	return l
}

// where: some numbers, if something is so; else none.
func where(so bool, l ...int) []int {
	if so {
		return l
	}
	return nil
}

// last: the last one of some numbers; -1 of none.
func last(l []int) int {
	if len(l) == 0 {
		return -1
	}
	return l[len(l)-1]
}

// holdPlaces: Ends tells of a tree, a word and a place that words end at some places.
func holdPlaces(t *testing.T, x api.Node, w string, at int, want ...int) {
	t.Helper()
	got, wrong := Ends(x, []byte(w), at)
	if !slices.Equal(got, want) || wrong != api.OK {
		t.Errorf("Ends(%s, %.60q (%d bytes), %d) = %v, %d, want %v", brief(x), w, len(w), at, got, wrong, want)
	}
}

// holdEnds: all calls tell so.
func holdEnds(t *testing.T, x api.Node, w string, at int, want ...int) {
	t.Helper()
	holdPlaces(t, x, w, at, want...)
	if got := Longest(x, []byte(w), at); got != last(want) {
		t.Errorf("Longest(%s, %.60q (%d bytes), %d) = %d, want %d", brief(x), w, len(w), at, got, last(want))
	}
	if at > 0 {
		return
	}
	if got := Full(x, []byte(w)); got != (last(want) == len(w)) {
		t.Errorf("Full(%s, %.60q (%d bytes)) = %t", brief(x), w, len(w), got)
	}
}

// holdWrong: Ends tells an error, and nothing else; Longest tells of no place.
func holdWrong(t *testing.T, x api.Node, w []byte, at int, want api.Errno) {
	t.Helper()
	got, wrong := Ends(x, w, at)
	if len(got) > 0 || wrong != want {
		t.Errorf("Ends(%s, %d bytes, %d) = %v, %d, want none and %d", brief(x), len(w), at, got, wrong, want)
	}
	if got := Longest(x, w, at); got != -1 {
		t.Errorf("Longest(%s, %d bytes, %d) = %d, want -1", brief(x), len(w), at, got)
	}
}

// holdMayNot: of a tree that may not be ErrKind is told, whatever else is handed in.
func holdMayNot(t *testing.T, x api.Node) {
	t.Helper()
	for _, n := range []int{0, 1, 2, 256, 257} {
		w := []byte(many(n, "a"))
		for _, at := range []int{least, -1, 0, 1, n, n + 1, greatest} {
			holdWrong(t, x, w, at, api.ErrKind)
		}
		if Full(x, w) {
			t.Errorf("Full(%s, %d bytes) is true", brief(x), n)
		}
	}
}

// holdAll: at each place of a word, where words end of which it is told whether a tree says them.
func holdAll(t *testing.T, x api.Node, w string, says func(from, to int) bool) {
	t.Helper()
	for at := range len(w) + 1 {
		var want []int
		for to := at; to <= len(w); to++ {
			if says(at, to) {
				want = append(want, to)
			}
		}
		holdEnds(t, x, w, at, want...)
	}
}

package bitset

import (
	"fmt"
	"math"
	"slices"
	"testing"

	"doublet/api"
)

// rooms: none, at the edges of words of bits, and the most that there may be.
func rooms() []int {
	return []int{0, 1, 2, 62, 63, 64, 65, 66, 127, 128, 129, 1000, Most - 64, Most - 63, Most - 1, Most}
}

// ends: numbers of no set, whatever its room is.
func ends() []int {
	return []int{math.MinInt, math.MinInt + 1, math.MinInt + 63, math.MinInt + 64, -Most, -128, -127, -65, -64, -63, -2, -1, Most, Most + 1, Most + 63, Most + 64, 1 << 32, 1<<32 + 1, math.MaxInt - 63, math.MaxInt - 1, math.MaxInt}
}

// edges: numbers at the edges of words of bits, and about a room's end, whether there is room for them or not; rising.
func edges(n int) []int {
	l := []int{0, 1, 2, 61, 62, 63, 64, 65, 66, 126, 127, 128, 129, 191, 192, n - 129, n - 128, n - 65, n - 64, n - 63, n - 2, n - 1, n, n + 1, n + 62, n + 63, n + 64, n + 65, n + 128}
	slices.Sort(l)
	return slices.Compact(l)
}

// fitting: those of edges for which there is room.
func fitting(n int) []int {
	return slices.DeleteFunc(edges(n), func(i int) bool { return i < 0 || i >= n })
}

// upTo: the numbers from one on, below another one.
func upTo(from, to int) []int {
	var l []int
	for i := from; i < to; i++ {
		l = append(l, i)
	}
	return l
}

// empty: a set with so much room.
func empty(t *testing.T, n int) *Bits {
	t.Helper()
	b, wrong := New(n)
	if b == nil || wrong != api.OK {
		t.Fatalf("New(%d) = %v, %d", n, b, wrong)
	}
	return b
}

// with: a set with so much room, and some numbers.
func with(t *testing.T, n int, l ...int) *Bits {
	t.Helper()
	b := empty(t, n)
	for _, i := range l {
		if !b.Put(i) {
			t.Fatalf("in room for %d there is none for %d, or it was there", n, i)
		}
	}
	return b
}

// hold: a set has so much room, and just some numbers, which rise.
func hold(t *testing.T, name string, b *Bits, n int, want []int) {
	t.Helper()
	if got := b.Room(); got != n {
		t.Errorf("%s: room is %d, want %d", name, got, n)
	}
	if got := b.Count(); got != len(want) {
		t.Errorf("%s: there are %d numbers, want %d", name, got, len(want))
	}
	if got := b.All(); !slices.Equal(got, want) {
		t.Errorf("%s: All = %s, want %s", name, brief(got), brief(want))
	}
	for _, i := range slices.Concat(edges(n), ends()) {
		if _, is := slices.BinarySearch(want, i); b.Has(i) != is {
			t.Errorf("%s: Has(%d) = %t", name, i, !is)
		}
	}
}

// brief: the front of a list, as a text.
func brief(l []int) string {
	if len(l) > 20 {
		return fmt.Sprint(l[:20], " .. of ", len(l))
	}
	return fmt.Sprint(l)
}

package intern

import (
	"fmt"
	"math"
	"slices"
	"testing"
)

// ends: numbers of no thing, in whatever table.
func ends() []int {
	return []int{math.MinInt, math.MinInt + 1, -1 << 32, -1000, -2, -1, 1 << 32, 1<<32 + 1, math.MaxInt - 1, math.MaxInt}
}

// past: numbers that no one of n things has.
func past(n int) []int {
	return append(ends(), n, n+1, n+2, 2*n+1, n+1000, -n-1, -n-2)
}

// with: a table into which some things were put, all of them new.
func with[K comparable](t *testing.T, l ...K) *Table[K] {
	t.Helper()
	x := New[K]()
	putNew(t, x, l...)
	return x
}

// putNew puts things that are not there, one behind the other.
func putNew[K comparable](t *testing.T, x *Table[K], l ...K) {
	t.Helper()
	for at, k := range l {
		n := x.Len()
		if i, is := x.Put(k); i != n || !is {
			t.Errorf("Put(%s), the new thing at %d, is %d, %t, want %d, true", brief(k), at, i, is, n)
		}
	}
}

// putAgain puts a thing that is there.
func putAgain[K comparable](t *testing.T, x *Table[K], k K, want int) {
	t.Helper()
	if i, is := x.Put(k); i != want || is {
		t.Errorf("Put(%s), again, is %d, %t, want %d, false", brief(k), i, is, want)
	}
}

// hold: a table has just some things, by their numbers, and none of some others.
func hold[K comparable](t *testing.T, name string, x *Table[K], want []K, others ...K) {
	t.Helper()
	if got := x.Len(); got != len(want) {
		t.Errorf("%s: Len is %d, want %d", name, got, len(want))
	}
	if got := x.Keys(); !slices.Equal(got, want) {
		t.Errorf("%s: Keys are %s, want %s", name, brief(got), brief(want))
	}
	for i, k := range want {
		if got, is := x.Key(i); got != k || !is {
			t.Errorf("%s: Key(%d) is %s, %t, want %s", name, i, brief(got), is, brief(k))
		}
		if got := x.Find(k); got != i {
			t.Errorf("%s: Find(%s) is %d, want %d", name, brief(k), got, i)
		}
	}
	var zero K
	for _, i := range past(len(want)) {
		if got, is := x.Key(i); got != zero || is {
			t.Errorf("%s: Key(%d) is %s, %t, though no thing has that number", name, i, brief(got), is)
		}
	}
	for _, k := range others {
		if got := x.Find(k); got != -1 {
			t.Errorf("%s: Find(%s), which is not there, is %d", name, brief(k), got)
		}
	}
	if got := x.Len(); got != len(want) {
		t.Errorf("%s: Len is %d, once all was asked, want %d", name, got, len(want))
	}
}

// brief: the front of a thing's text.
func brief(k any) string {
	return fmt.Sprintf("%.60q", fmt.Sprint(k))
}

// some: as many texts, each another one.
func some(n int) []string {
	l := make([]string, n)
	for i := range l {
		l[i] = fmt.Sprint("thing ", i)
	}
	return l
}

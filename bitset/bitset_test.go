package bitset

import (
	"fmt"
	"math"
	"slices"
	"testing"

	"doublet/api"
)

func TestP1402New(t *testing.T) {
	if Most != 1048576 {
		t.Errorf("Most is %d", Most)
	}
	for _, n := range rooms() {
		hold(t, fmt.Sprintf("New(%d)", n), empty(t, n), n, nil)
	}
	for n := range 1000 {
		if b := empty(t, n); b.Room() != n || b.Count() != 0 || len(b.All()) != 0 {
			t.Errorf("New(%d) has room for %d, and the numbers %v", n, b.Room(), b.All())
		}
	}
	for _, n := range []int{math.MinInt, math.MinInt + 1, -Most, -65, -64, -63, -2, -1, Most + 1, Most + 2, Most + 64, 1 << 32, math.MaxInt - 63, math.MaxInt - 1, math.MaxInt} {
		if b, wrong := New(n); b != nil || wrong != api.ErrRange {
			t.Errorf("New(%d) = %v, %d", n, b, wrong)
		}
	}
}

// What two calls of New tell are two sets.
func TestP1402NewEachTime(t *testing.T) {
	b, c := empty(t, 70), empty(t, 70)
	b.Put(69)
	hold(t, "the other set", c, 70, nil)
	hold(t, "a later set", empty(t, 70), 70, nil)
}

func TestP1402Put(t *testing.T) {
	for _, n := range rooms() {
		name := fmt.Sprintf("room for %d", n)
		b := empty(t, n)
		var in []int
		for _, i := range edges(n) {
			fits := i >= 0 && i < n
			if b.Put(i) != fits {
				t.Errorf("%s: Put(%d) is %t", name, i, !fits)
			}
			if fits {
				in = append(in, i)
			}
			if b.Has(i) != fits || b.Put(i) || b.Has(i) != fits || b.Count() != len(in) {
				t.Errorf("%s: %d is put twice, and then %t, %d", name, i, b.Has(i), b.Count())
			}
		}
		hold(t, name, b, n, in)
		for _, i := range ends() {
			if b.Put(i) {
				t.Errorf("%s: Put(%d) is true", name, i)
			}
		}
		hold(t, name, b, n, in)
	}
}

func TestP1402Take(t *testing.T) {
	for _, n := range rooms() {
		name := fmt.Sprintf("room for %d", n)
		b := empty(t, n)
		for _, i := range slices.Concat(edges(n), ends()) {
			if b.Take(i) {
				t.Errorf("%s: %d is taken of an empty set", name, i)
			}
		}
		hold(t, name, b, n, nil)
		in := fitting(n)
		b = with(t, n, in...)
		for _, i := range slices.Concat(edges(n), ends()) {
			if fits := i >= 0 && i < n; b.Take(i) != fits {
				t.Errorf("%s: Take(%d) is %t", name, i, !fits)
			} else if fits {
				in = in[1:]
			}
			if b.Has(i) || b.Take(i) {
				t.Errorf("%s: %d is taken, and there still", name, i)
			}
			hold(t, name, b, n, in)
		}
		for _, i := range fitting(n) {
			if !b.Put(i) || !b.Take(i) || !b.Put(i) || b.Put(i) || !b.Has(i) {
				t.Errorf("%s: %d, once taken, is put", name, i)
			}
		}
		hold(t, name, b, n, fitting(n))
	}
}

// One number alone is put, of which there is room for each: no other one is there then.
func TestP1402Has(t *testing.T) {
	const n = 200
	for i := range n {
		b := with(t, n, i)
		for j := -300; j < 600; j++ {
			if b.Has(j) != (i == j) {
				t.Errorf("of %d alone Has(%d) is %t", i, j, b.Has(j))
			}
		}
		full := with(t, n, upTo(0, n)...)
		full.Take(i)
		for j := -300; j < 600; j++ {
			if want := j >= 0 && j < n && i != j; full.Has(j) != want {
				t.Errorf("of all but %d Has(%d) is %t", i, j, !want)
			}
		}
	}
}

func TestP1402RoomCountAll(t *testing.T) {
	hold(t, "the chapter's example", with(t, 70, 3, 64), 70, []int{3, 64})
	for _, n := range rooms() {
		all := upTo(0, n)
		full := with(t, n, all...)
		hold(t, fmt.Sprintf("all of %d", n), full, n, all)
		falling := slices.Clone(fitting(n))
		slices.Reverse(falling)
		hold(t, fmt.Sprintf("edges of %d, put from the last one on", n), with(t, n, falling...), n, fitting(n))
		for _, i := range fitting(n) {
			full.Take(i)
		}
		left := slices.DeleteFunc(all, func(i int) bool { return slices.Contains(fitting(n), i) })
		hold(t, fmt.Sprintf("all but edges of %d", n), full, n, left)
	}
	for n := range 300 {
		hold(t, fmt.Sprintf("all of %d", n), with(t, n, upTo(0, n)...), n, upTo(0, n))
	}
}

func TestP1402AllIsNew(t *testing.T) {
	b := with(t, 200, 3, 64, 199)
	one, other := b.All(), b.All()
	for i := range one[:cap(one)] {
		one[:cap(one)][i] = 77
	}
	_ = append(one[:2], 5, 6, 7, 8)
	if !slices.Equal(other, []int{3, 64, 199}) {
		t.Errorf("what All told ahead is %v now", other)
	}
	hold(t, "what All told is written over", b, 200, []int{3, 64, 199})
	b.Take(64)
	b.Put(0)
	if !slices.Equal(other, []int{3, 64, 199}) {
		t.Errorf("what All told hangs on what is put later: %v", other)
	}
}

func TestP1402Copy(t *testing.T) {
	for _, n := range rooms() {
		for _, l := range [][]int{nil, fitting(n), upTo(0, min(n, 300)), fitting(n)[:len(fitting(n))/2]} {
			name := fmt.Sprintf("room for %d, %s", n, brief(l))
			b := with(t, n, l...)
			c := b.Copy()
			if c == b {
				t.Fatalf("%s: Copy is the set itself", name)
			}
			hold(t, name+": the copy", c, n, l)
			if c.Key() != b.Key() {
				t.Errorf("%s: the copy has another key", name)
			}
			holdApart(t, name+": of the copy", c, b, n, l)
			holdApart(t, name+": of the set", b, b.Copy(), n, b.All())
			d := b.Copy().Copy()
			hold(t, name+": the copy of a copy", d, n, b.All())
		}
	}
}

// holdApart: whatever is done to one of two sets of the same numbers, the other one stays.
func holdApart(t *testing.T, name string, b, other *Bits, n int, l []int) {
	t.Helper()
	for _, i := range fitting(n) {
		if !b.Take(i) {
			b.Put(i)
		}
		if b.Has(i) == other.Has(i) {
			t.Errorf("%s: to put or take %d is to do so of the other one, too", name, i)
		}
	}
	hold(t, name, other, n, l)
	b.Or(with(t, n, fitting(n)...))
	hold(t, name, other, n, l)
	for _, i := range b.All() {
		b.Take(i)
	}
	hold(t, name, b, n, nil)
	hold(t, name, other, n, l)
}

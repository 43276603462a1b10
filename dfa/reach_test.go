package dfa

import (
	"slices"
	"testing"

	"doublet/api"
	"doublet/sample"
)

func TestP2003ReachWrittenOut(t *testing.T) {
	holdReach(t, ab(), 0, 3, 2, 4)
	holdReach(t, quiet(1, 1), 0)
	holdReach(t, quiet(1, 256), 0)
	holdReach(t, quiet(50, 3), 0)
	// The order of classes, also where two ways lead to one state.
	holdReach(t, made("ab", []int{0, 0, 0, 0}, []int{3, 1, 2}, []int{0, 0, 0}, []int{0, 0, 0}, []int{0, 0, 0}), 0, 3, 1, 2)
	holdReach(t, made("ab", []int{0, 0, 0, 0}, []int{2, 1, 2}, []int{3, 3, 3}, []int{3, 1, 0}, []int{0, 1, 2}), 0, 2, 1, 3)
	holdReach(t, made("ab", []int{0, 0, 0, 0}, []int{0, 0, 1}, []int{1, 3, 2}, []int{0, 0, 0}, []int{2, 2, 2}), 0, 1, 3, 2)
	holdReach(t, made("a", []int{0, 0, 0, 0, 0, 0}, []int{4, 2}, []int{5, 5}, []int{1, 3}, []int{0, 5}, []int{3, 1}, []int{0, 0}), 0, 4, 2, 3, 1, 5)
	// What lies behind one that was met ahead comes ahead of what lies behind a later one.
	holdReach(t, made("a", []int{0, 0, 0, 0, 0, 0, 0}, []int{2, 1}, []int{6, 5}, []int{4, 3}, []int{0, 0}, []int{0, 0}, []int{0, 0}, []int{0, 0}), 0, 2, 1, 4, 3, 6, 5)
	// A state that leads to itself, and one that none leads to.
	holdReach(t, made("a", []int{0, 0, 0}, []int{0, 2}, []int{0, 1}, []int{2, 2}), 0, 2)
	holdReach(t, made("", []int{0, 0, 0}, []int{0}, []int{0}, []int{1}), 0)
}

// Classes count, not the order of the bytes that are in them; labels do not count.
func TestP2003ReachClasses(t *testing.T) {
	d := quiet(256, 256)
	for class := range 256 {
		d.Next[0][class] = (class*5 + 9) % 256
	}
	want := []int{0}
	for class := range 256 {
		if to := (class*5 + 9) % 256; to != 0 {
			want = append(want, to)
		}
	}
	holdReach(t, d, want...)
	holdReach(t, labels(d, upTo(0, 256)...), want...)
	d = quiet(4, 4)
	for b := range 256 {
		d.Of[b] = uint8(min(b, 3))
	}
	d.Next[0] = []int{3, 0, 2, 1}
	holdReach(t, d, 0, 3, 2, 1)
}

// Rings and rows, forward and back, of many sizes.
func TestP2003ReachRings(t *testing.T) {
	t.Parallel()
	for _, n := range []int{1, 2, 3, 4, 63, 64, 65, 1000, 4097, most - 1, most} {
		ring := unary(append(upTo(1, n), 0)...)
		holdReach(t, ring, upTo(0, n)...)
		back := unary(append([]int{n - 1}, upTo(0, n-1)...)...)
		holdReach(t, back, append([]int{0}, backTo(1, n)...)...)
		row := unary(append(upTo(1, n), n-1)...)
		holdReach(t, row, upTo(0, n)...)
		toFront := unary(append([]int{0}, upTo(0, n-1)...)...)
		holdReach(t, toFront, 0)
		if n > 10 {
			// A row that ends in a ring ahead of the others.
			ring.Next[n-5] = []int{7}
			holdReach(t, ring, upTo(0, n-4)...)
			back.Next[5] = []int{9}
			holdReach(t, back, append([]int{0}, backTo(5, n)...)...)
		}
	}
}

// A tree of states is gone through level by level; by classes in their order.
func TestP2003ReachLevels(t *testing.T) {
	t.Parallel()
	for _, width := range []int{2, 3, 7, 256} {
		for _, n := range []int{2, 10, 100, 4000} {
			down, falling := quiet(n, width), quiet(n, width)
			for s := range n {
				for class := range width {
					down.Next[s][class] = min(s*width+class+1, n-1)
					falling.Next[s][width-1-class] = min(s*width+class+1, n-1)
				}
			}
			holdReach(t, down, upTo(0, n)...)
			holdReach(t, falling, modelOf(falling).reach()...)
		}
	}
}

func TestP2003LiveWrittenOut(t *testing.T) {
	holdLive(t, ab(), 0, 1, 2, 4)
	ring := unary(1, 2, 3, 0)
	row := unary(1, 2, 3, 3)
	loops := quiet(4, 2)
	for s := range 4 {
		holdLive(t, labels(ring, s), 0, 1, 2, 3)
		holdLive(t, labels(row, s), upTo(0, s+1)...)
		holdLive(t, labels(loops, s), s)
	}
	for _, d := range []api.Dfa{ring, row, loops, quiet(1, 1), quiet(1, 256)} {
		n := len(d.Label)
		holdLive(t, d)
		holdLive(t, labels(d))
		holdLive(t, labels(d, upTo(0, n)...), upTo(0, n)...)
	}
	holdLive(t, labels(loops, 3, 1), 1, 3)
	holdLive(t, labels(row, 1, 2), 0, 1, 2)
	// A label at a state alone at which it may not be: 2 leads to it, and 3 to that.
	d := made("a", []int{0, 1, 0, 0, 0}, []int{0, 0}, []int{0, 0}, []int{0, 1}, []int{2, 0}, []int{4, 0})
	holdLive(t, d, 1, 2, 3)
	holdReach(t, d, 0)
	// A ring without a label, beside one that has one.
	d = made("a", []int{0, 0, 0, 0, 0, 1}, []int{1, 3}, []int{2, 2}, []int{1, 1}, []int{4, 0}, []int{5, 3}, []int{2, 4})
	holdLive(t, d, 0, 3, 4, 5)
	// By the last class alone, and by the first one alone.
	for _, class := range []int{0, 100, 255} {
		wide := labels(withNext(quiet(3, 256), 0, class, 2), 2)
		holdLive(t, wide, 0, 2)
	}
	// Which label does not count.
	x := unary(1, 2, 2, 0)
	x.Names, x.Label = called(64), []int{0, 64, 0, 0}
	holdLive(t, x, 0, 1, 3)
}

// Through many states, forward and back, to one label at whichever place.
func TestP2003LiveRows(t *testing.T) {
	t.Parallel()
	for _, n := range []int{2, 64, 1000, most} {
		ring := unary(append(upTo(1, n), 0)...)
		row := unary(append(upTo(1, n), n-1)...)
		toFront := unary(append([]int{0}, upTo(0, n-1)...)...)
		for _, at := range []int{0, 1, n / 2, n - 1} {
			holdLive(t, labels(ring, at), upTo(0, n)...)
			holdLive(t, labels(row, at), upTo(0, at+1)...)
			holdLive(t, labels(toFront, at), upTo(at, n)...)
			holdLive(t, labels(quiet(n, 3), at), at)
		}
		// All lead to one, and one to all.
		for _, at := range []int{0, n / 2, n - 1} {
			holdLive(t, labels(unary(slices.Repeat([]int{at}, n)...), at), upTo(0, n)...)
		}
	}
}

// What lies behind, and what leads there, are one: for each two states.
func TestP2003ReachAndLive(t *testing.T) {
	t.Parallel()
	next := sample.Chances()
	for range 400 {
		d := labels(sample.AnyDfa(2+next(25), next))
		reach := Reach(d)
		for s := range d.Label {
			// 0 is live by a label at s just if s can be come to.
			if got, want := slices.Contains(Live(labels(d, s)), 0), slices.Contains(reach, s); got != want {
				t.Errorf("by a label at %d the state 0 is live: %t, of %s", s, got, brief(d))
			}
		}
		if t.Failed() {
			return
		}
	}
}

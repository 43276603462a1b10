package quotient

import (
	"slices"
	"testing"
)

func TestP2302FinerWrittenOut(t *testing.T) {
	for _, r := range []struct {
		a, b []int
		want bool
	}{
		// Empty lists.
		{nil, nil, true}, {ints(), nil, true}, {nil, ints(), true}, {nil, ints(0), false}, {ints(0), nil, false}, {ints(), ints(1, 1), false},
		// Not as long: also where one is the other's front.
		{ints(0, 1, 2), ints(0, 1), false}, {ints(0, 1), ints(0, 1, 2), false}, {ints(0, 0), ints(0, 0, 0), false}, {ints(0, 0, 0), ints(0, 0), false}, {ints(0), ints(0, 0), false}, {ints(0, 1, 2), ints(0, 0), false}, {ints(0, 1), ints(0, 0, 0), false},
		// With itself, and the same blocks by other numbers.
		{ints(4), ints(4), true}, {ints(4), ints(-9), true}, {ints(0, 1, 0), ints(0, 1, 0), true}, {ints(0, 1, 0), ints(1, 0, 1), true}, {ints(5, 5, 6, 6, 1), ints(1, 1, 5, 5, 6), true},
		// Coarser ones, and finer ones.
		{ints(0, 1, 2), ints(3, 3, 4), true}, {ints(3, 3, 4), ints(0, 1, 2), false}, {ints(0, 0, 1), ints(0, 1, 2), false}, {ints(0, 1, 2, 3), ints(7, 7, 7, 7), true}, {ints(7, 7, 7, 7), ints(0, 1, 2, 3), false},
		{ints(0, 0, 1, 1, 2), ints(0, 0, 0, 0, 1), true}, {ints(0, 0, 1, 1, 2), ints(0, 0, 1, 1, 0), true}, {ints(0, 0, 1, 1, 2), ints(0, 0, 1, 1, 1), true}, {ints(0, 0, 1, 1, 0), ints(0, 0, 1, 1, 2), false}, {ints(0, 0, 1, 1, 2), ints(2, 0, 1, 1, 2), false},
		// One state alone is in another block: the first one, one between, the last one.
		{ints(1, 1, 1, 1), ints(0, 1, 1, 1), false}, {ints(1, 1, 1, 1), ints(1, 0, 1, 1), false}, {ints(1, 1, 1, 1), ints(1, 1, 1, 0), false}, {ints(0, 1, 1, 1), ints(1, 1, 1, 1), true}, {ints(1, 1, 1, 0), ints(1, 1, 1, 1), true},
		// Neither.
		{ints(0, 0, 1, 1), ints(0, 1, 0, 1), false}, {ints(0, 1, 0, 1), ints(0, 0, 1, 1), false}, {ints(0, 0, 0, 1), ints(0, 1, 1, 1), false}, {ints(0, 1, 1, 1), ints(0, 0, 0, 1), false}, {ints(0, 0, 1, 2), ints(0, 1, 2, 2), false},
		// As many blocks, of other states.
		{ints(0, 0, 1), ints(0, 1, 1), false}, {ints(0, 0, 1), ints(0, 1, 0), false}, {ints(0, 1, 0, 2), ints(0, 1, 2, 0), false},
		{ints(least, greatest, least), ints(greatest, greatest, greatest), true}, {ints(least, least), ints(least, greatest), false}, {ints(0, 0), ints(0, 1<<32), false}, {ints(0, 0), ints(0, least), false},
	} {
		holdFiner(t, r.a, r.b, r.want)
	}
}

// All blocks of up to five states: each is finer than what comes of it when some of its blocks are put together, and than no other ones.
func TestP2302FinerSmall(t *testing.T) {
	t.Parallel()
	for states := range 6 {
		all := partitions(states)
		for _, a := range all {
			coarser := map[string]struct{}{}
			for _, together := range partitions(len(slices.Compact(slices.Sorted(slices.Values(a))))) {
				coarser[many(modelNorm(turned(a, func(n int) int { return together[n] }))).String()] = struct{}{}
			}
			for _, b := range all {
				if _, ok := coarser[many(b).String()]; Finer(a, b) != ok {
					t.Errorf("Finer is %t of %s and %s", !ok, many(a), many(b))
				}
			}
		}
	}
}

// As many states as there may be, and more.
func TestP2302FinerMany(t *testing.T) {
	t.Parallel()
	hold := func(a, b []int, want bool) {
		t.Helper()
		if Finer(a, b) != want {
			t.Errorf("Finer is %t of %s and %s", !want, many(a), many(b))
		}
	}
	for _, n := range []int{most - 1, most, most + 1, 1 << 18} {
		all, one := upTo(0, n), make([]int, n)
		fine, coarse := by(n, func(s int) int { return -s / 4 }), by(n, func(s int) int { return s / 64 })
		hold(all, all, true)
		hold(all, one, true)
		hold(one, all, false)
		hold(all, fine, true)
		hold(fine, coarse, true)
		hold(coarse, fine, false)
		hold(fine, rest(n, 4), false)
		hold(rest(n, 30), rest(n, 6), true)
		hold(rest(n, 6), rest(n, 30), false)
		hold(rest(n, 6), rest(n, 4), false)
		hold(all, upTo(0, n-1), false)
		hold(upTo(0, n-1), all, false)
		// One state of many, the last one, is elsewhere.
		last := slices.Clone(one)
		last[n-1] = 1
		hold(one, last, false)
		hold(last, one, true)
		hold(all, last, true)
	}
}

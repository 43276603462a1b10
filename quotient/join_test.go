package quotient

import "testing"

func TestP2302JoinWrittenOut(t *testing.T) {
	for _, r := range []struct{ a, b, want []int }{
		// No states.
		{nil, nil, nil}, {nil, ints(1, 2), nil}, {ints(), ints(5), nil}, {ints(), nil, nil},
		// As long: with itself, with all in one block, with each alone.
		{ints(3), ints(-3), ints(0)},
		{ints(5, 5, 6, 6, 1), ints(5, 5, 6, 6, 1), ints(0, 0, 1, 1, 2)},
		{ints(5, 5, 6, 6, 1), ints(8, 8, 8, 8, 8), ints(0, 0, 1, 1, 2)},
		{ints(5, 5, 6, 6, 1), ints(1, 2, 3, 4, 5), ints(0, 1, 2, 3, 4)},
		{ints(2, 1, 2, 1), ints(1, 2, 1, 2), ints(0, 1, 0, 1)},
		{ints(0, 0, 0), ints(0, 0, 0), ints(0, 0, 0)}, {ints(0, 1, 2), ints(2, 1, 0), ints(0, 1, 2)},
		// One finer than the other.
		{ints(0, 1, 2, 2, 1, 0), ints(0, 1, 1, 1, 1, 0), ints(0, 1, 2, 2, 1, 0)},
		{ints(0, 0, 1, 1), ints(0, 0, 1, 2), ints(0, 0, 1, 2)},
		{ints(9, 9, 9, 4), ints(4, 9, 4, 7), ints(0, 1, 0, 2)},
		// Neither.
		{ints(0, 0, 1, 1), ints(0, 1, 0, 1), ints(0, 1, 2, 3)},
		{ints(0, 0, 1, 1), ints(0, 1, 1, 0), ints(0, 1, 2, 3)},
		{ints(0, 0, 0, 1, 1), ints(0, 1, 1, 1, 1), ints(0, 1, 1, 2, 2)},
		{ints(0, 1, 0, 1, 0, 1), ints(0, 1, 2, 0, 1, 2), ints(0, 1, 2, 3, 4, 5)},
		{ints(0, 0, 0, 0, 1, 1, 1, 1), ints(0, 0, 1, 1, 0, 0, 1, 1), ints(0, 0, 1, 1, 2, 2, 3, 3)},
		// Not as long: as many states as the shorter one has, whichever that is, and whatever the longer one goes on with.
		{ints(5, 5, 6, 6, 1), ints(1, 2, 1, 1), ints(0, 1, 2, 2)},
		{ints(1, 2, 1, 1), ints(5, 5, 6, 6, 1, 2, 1, 1, 1), ints(0, 1, 2, 2)},
		{ints(7), ints(1, 2, 3), ints(0)}, {ints(7, 7), ints(1, 1, 1), ints(0, 0)}, {ints(7, 8), ints(1, 1, 1, 8), ints(0, 1)},
		// Numbers below 0, and very great ones.
		{ints(least, greatest, least, least), ints(-1, -1, -1, 0), ints(0, 1, 0, 2)},
		{ints(greatest, greatest-1, greatest), ints(least, least, least+1), ints(0, 1, 2)},
	} {
		holdJoin(t, r.a, r.b, r.want)
	}
}

// Pairs of numbers that only together tell two states apart: their sum, their difference, their product, their bits, or their digits in a row are the same.
func TestP2302JoinPairs(t *testing.T) {
	t.Parallel()
	hold := func(a1, b1, a2, b2 int) {
		t.Helper()
		a, b := ints(a1, a2, a1, a2), ints(b1, b2, b1, b2)
		want := ints(0, 1, 0, 1)
		holdBlocks(t, Join(a, b), want, "Join of %s and %s", many(a), many(b))
		holdBlocks(t, Join(b, a), want, "Join of %s and %s", many(b), many(a))
		if Finer(a, turned(want, turns()[1])) != (a1 != a2) || !Finer(want, a) || !Finer(want, b) {
			t.Errorf("Finer is wrong of %s, and %s", many(a), many(b))
		}
	}
	for _, p := range [][4]int{
		{1, 2, 2, 1}, {0, 3, 1, 2}, {5, 5, 6, 6}, {5, 5, 4, 6}, {2, 6, 3, 4}, {0, 7, 7, 0}, {0, 7, 0, 8}, {7, 0, 8, 0}, {1, 11, 11, 1}, {1, 10, 11, 0}, {1, -1, -1, 1}, {-1, -1, 1, 1}, {0, 0, -1, 1}, {0, 0, 1, 1}, {0, -1, -1, 0},
		{least, 0, 0, least}, {least, least, 0, 0}, {greatest, least, -1, 0}, {greatest, 1, least, 0}, {greatest, greatest, -2, 0}, {least, -1, greatest, 0}, {least, greatest, greatest, least}, {3, 5, 5, 3},
	} {
		hold(p[0], p[1], p[2], p[3])
	}
	// One number is so many times as much as the other one.
	for _, times := range []int{2, 3, 10, 31, 100, 127, 128, 255, 256, 257, 1000, 65535, 65536, 65537, 1 << 17, 1 << 20, 1000003, 1 << 24, 1e9 + 7, 1 << 31, 1<<31 - 1, 1 << 32, 1<<32 + 1, 1 << 48, 1 << 62, least, greatest, -1, -31} {
		hold(0, times, 1, 0)
		hold(1, 0, 0, times)
		hold(1, times, 2, 0)
		hold(5, 7, 5+1, 7-times)
		hold(5, 7, 5-times, 7+1)
		hold(5, 7, 5+times, 7-times)
		hold(5, 7, 5^times, 7^times)
	}
}

// 256 with 256 that are 65536 together, and more.
func TestP2302JoinMany(t *testing.T) {
	t.Parallel()
	for _, n := range []int{most - 1, most, most + 1, 1 << 18} {
		high := by(n, func(s int) int { return s / 256 })
		low := rest(n, 256)
		holdBlocks(t, Join(high, low), upTo(0, n), "Join of two that are all, of %d,", n)
		holdBlocks(t, Join(low, high), upTo(0, n), "Join of two that are all, of %d, the other way round,", n)
		holdBlocks(t, Join(high, high), high, "Join with itself, of %d,", n)
		holdBlocks(t, Join(low, make([]int, n)), low, "Join with one block, of %d,", n)
		holdBlocks(t, Join(make([]int, n), make([]int, n)), make([]int, n), "Join of one block, of %d,", n)
		holdBlocks(t, Join(upTo(0, n), low), upTo(0, n), "Join with each alone, of %d,", n)
		holdBlocks(t, Join(rest(n, 6), rest(n, 15)), rest(n, 30), "Join of rests, of %d,", n)
		holdBlocks(t, Join(low, ints(1, 1, 1)), ints(0, 1, 2), "Join with three, of %d,", n)
		holdBlocks(t, Join(high, upTo(0, n+1)), upTo(0, n), "Join with one more, of %d,", n)
	}
}

package quotient

import (
	"slices"
	"testing"

	"doublet/sample"
)

func TestP2302NormWrittenOut(t *testing.T) {
	for _, r := range []struct{ l, want []int }{
		// The chapter's example.
		{ints(7, 3, 7), ints(0, 1, 0)},
		// No numbers; one; all the same; all different.
		{nil, nil}, {ints(), nil},
		{ints(0), ints(0)}, {ints(5), ints(0)}, {ints(-5), ints(0)}, {ints(least), ints(0)}, {ints(greatest), ints(0)},
		{ints(0, 0, 0), ints(0, 0, 0)}, {ints(9, 9, 9, 9), ints(0, 0, 0, 0)}, {ints(-1, -1), ints(0, 0)}, {ints(least, least), ints(0, 0)},
		{ints(4, 5, 6, 7), ints(0, 1, 2, 3)}, {ints(3, 1, 2, 0), ints(0, 1, 2, 3)}, {ints(-3, 8, 2, -9), ints(0, 1, 2, 3)},
		// Normal already; the other way round; but for one.
		{ints(0, 1, 2, 3), ints(0, 1, 2, 3)}, {ints(0, 0, 1, 0, 2, 1), ints(0, 0, 1, 0, 2, 1)}, {ints(0, 1, 1, 1, 0), ints(0, 1, 1, 1, 0)},
		{ints(3, 2, 1, 0), ints(0, 1, 2, 3)}, {ints(2, 2, 1, 2, 0, 1), ints(0, 0, 1, 0, 2, 1)}, {ints(1, 0, 0, 0, 1), ints(0, 1, 1, 1, 0)}, {ints(1, 0), ints(0, 1)},
		{ints(0, 2, 1, 3), ints(0, 1, 2, 3)}, {ints(0, 1, 3, 3), ints(0, 1, 2, 2)}, {ints(1, 2, 3, 4), ints(0, 1, 2, 3)}, {ints(0, 1, 2, 2, 5), ints(0, 1, 2, 2, 3)},
		// Below 0; the least number and the greatest one, and such as are the same but for a bit.
		{ints(-1, 0, 1, -1), ints(0, 1, 2, 0)}, {ints(1, 0, -1, 1), ints(0, 1, 2, 0)}, {ints(-1, -2, -3, -2), ints(0, 1, 2, 1)},
		{ints(least, greatest, least), ints(0, 1, 0)}, {ints(greatest, least, 0, greatest, -1), ints(0, 1, 2, 0, 3)}, {ints(least, least+1, greatest, greatest-1, least), ints(0, 1, 2, 3, 0)},
		{ints(0, least, 0), ints(0, 1, 0)}, {ints(5, 5+1<<32, 5), ints(0, 1, 0)}, {ints(0, 1<<16, 1<<31, 1<<32, 1<<48, 1<<62), ints(0, 1, 2, 3, 4, 5)}, {ints(-1, 1<<32-1, 1<<31-1, -1), ints(0, 1, 2, 0)},
		{ints(65535, 65536, 65537, 255, 256, 65535), ints(0, 1, 2, 3, 4, 0)},
	} {
		holdNorm(t, r.l, r.want)
	}
}

// All blocks of up to seven states.
func TestP2302NormSmall(t *testing.T) {
	t.Parallel()
	for states, want := range []int{1, 1, 2, 5, 15, 52, 203, 877} {
		all := partitions(states)
		if len(all) != want {
			t.Errorf("of %d states there are %d blocks", states, len(all))
		}
		for _, l := range all {
			holdNorm(t, l, l)
		}
	}
}

// Each bit of a number tells it from others.
func TestP2302NormBits(t *testing.T) {
	t.Parallel()
	for bit := range 64 {
		for _, n := range ints(0, -1, 5, 1<<40+3) {
			other := n ^ 1<<bit
			holdNorm(t, ints(n, other, n, other), ints(0, 1, 0, 1))
		}
	}
	l := by(64, func(bit int) int { return 1 << bit })
	holdNorm(t, l, upTo(0, 64))
	holdNorm(t, append(l, l...), append(upTo(0, 64), upTo(0, 64)...))
}

// As many numbers as there may be states, and more.
func TestP2302NormMany(t *testing.T) {
	t.Parallel()
	for _, n := range []int{255, 256, 257, most - 1, most, most + 1, 200000} {
		all := upTo(0, n)
		holdNorm(t, sample.Turned(all), all)
		holdNorm(t, make([]int, n), make([]int, n))
		// What comes again has the number that it had, also a great one.
		for _, by := range ints(1000, 32769, 65535, 65536, 65537, 100000) {
			holdNorm(t, rest(n, by), rest(n, by))
		}
		holdNorm(t, by(n, func(s int) int { return -(s / 7) }), by(n, func(s int) int { return s / 7 }))
		// The last one alone, and the last one as the first one.
		last := make([]int, n)
		last[n-1] = 1
		holdNorm(t, last, last)
		ends := slices.Clone(all)
		ends[n-1] = 0
		holdNorm(t, ends, ends)
	}
}

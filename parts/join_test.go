package parts

import "testing"

func TestP1902JoinWrittenOut(t *testing.T) {
	// Each tells other bytes apart.
	holdJoin(t, numbers(others("ab"), set("ab")), numbers(others("bc"), set("bc")), numbers(others("abc"), set("a"), set("b"), set("c")), 4)
	holdJoin(t, numbers(others("a"), set("a")), numbers(others("b"), set("b")), numbers(others("ab"), set("a"), set("b")), 3)
	holdJoin(t, numbers(others("abc"), set("ac"), set("b")), numbers(others("c"), set("c")), numbers(others("abc"), set("a"), set("b"), set("c")), 4)
	holdJoin(t, numbers(span(0, 127), span(128, 255)), numbers(span(0, 63), span(64, 255)), numbers(span(0, 63), span(64, 127), span(128, 255)), 3)
	holdJoin(t, by(func(b int) int { return b % 2 }), by(func(b int) int { return b % 3 }), by(func(b int) int { return b % 6 }), 6)
	holdJoin(t, by(func(b int) int { return min(b, 1) }), by(func(b int) int { return b / 255 }), by(func(b int) int { return min(b, 1) + b/255 }), 3)
	// 16 with 16 that are 256 together, and 128 with two.
	all := by(func(b int) int { return b })
	holdJoin(t, by(func(b int) int { return b / 16 }), by(func(b int) int { return b % 16 }), all, 256)
	holdJoin(t, by(func(b int) int { return b / 2 }), by(func(b int) int { return b % 2 }), all, 256)
	holdJoin(t, by(func(b int) int { return b % 128 }), by(func(b int) int { return b / 128 }), all, 256)
	holdJoin(t, by(func(b int) int { return min(b, 254) }), by(func(b int) int { return b / 255 }), all, 256)
	holdJoin(t, by(func(b int) int { return min(b, 254) }), by(func(b int) int { return b / 128 }), by(func(b int) int { return min(b, 254) }), 255)
	// One inside the other.
	holdJoin(t, by(func(b int) int { return b / 16 }), by(func(b int) int { return b / 64 }), by(func(b int) int { return b / 16 }), 16)
}

// One class changes none; 256 are 256, with any.
func TestP1902JoinWithOneAndAll(t *testing.T) {
	all := by(func(b int) int { return b })
	for _, r := range normals() {
		for _, turn := range turns() {
			of := turned(r.of, turn)
			for _, n := range []int{0, 1, 255} {
				holdJoin(t, of, by(func(int) int { return n }), r.of, r.width)
			}
			holdJoin(t, of, all, all, 256)
			holdJoin(t, of, turned(all, turn), all, 256)
			// With itself, and with the same ones by other numbers.
			holdJoin(t, of, of, r.of, r.width)
			holdJoin(t, of, r.of, r.of, r.width)
			holdJoin(t, of, turned(of, func(n uint8) uint8 { return 255 - n }), r.of, r.width)
		}
	}
}

// Other numbers on either side change nothing, up to 255: numbers of both are never put together into one.
func TestP1902JoinOtherNumbers(t *testing.T) {
	t.Parallel()
	l := normals()
	for i, r := range l {
		for _, s := range l[i:] {
			want, width := modelJoin(r.of, s.of)
			for _, turn := range turns() {
				for _, other := range turns()[:4] {
					holdJoin(t, turned(r.of, turn), turned(s.of, other), want, width)
				}
			}
		}
	}
	// Pairs of numbers whose sum, difference, product, or bits are the same.
	for _, pairs := range [][4]uint8{{1, 2, 2, 1}, {0, 3, 1, 2}, {5, 5, 6, 6}, {2, 6, 3, 4}, {0, 7, 7, 0}, {0, 255, 255, 0}, {1, 0, 0, 1}, {16, 1, 1, 16}, {255, 1, 254, 2}, {0, 0, 0, 1}, {0, 0, 1, 0}} {
		a := by(func(b int) int { return int(pairs[b%2*2]) })
		c := by(func(b int) int { return int(pairs[b%2*2+1]) })
		holdJoin(t, a, c, by(func(b int) int { return b % 2 }), 2)
	}
}

// All pairs of classes of a few bytes.
func TestP1902JoinFewBytes(t *testing.T) {
	t.Parallel()
	few := []byte{0, 64, 200, 255}
	var l []classes
	for code := range 3 * 3 * 3 * 3 {
		of := by(func(int) int { return 9 })
		for _, b := range few {
			of[b] = uint8(7 + 2*(code%3))
			code /= 3
		}
		l = append(l, of)
	}
	for i, a := range l {
		for _, b := range l[i:] {
			want, width := modelJoin(a, b)
			holdJoin(t, a, b, want, width)
		}
	}
}

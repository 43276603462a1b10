package parts

import "testing"

// row: normal classes, and how many there are.
type row struct {
	of    classes
	width int
}

// normals: some of each kind.
func normals() []row {
	return []row{
		// One class.
		{classes{}, 1},
		// Two: the byte 0 alone, the byte 255 alone, one in the middle alone, even and odd bytes.
		{by(func(b int) int { return min(b, 1) }), 2}, {by(func(b int) int { return b / 255 }), 2}, {numbers(others("a"), set("a")), 2}, {by(func(b int) int { return b % 2 }), 2}, {by(func(b int) int { return b / 64 % 2 }), 2},
		// Several, side by side and among each other.
		{by(func(b int) int { return b % 3 }), 3}, {numbers(others("abcde"), set("ab"), set("c"), set("de")), 4}, {by(func(b int) int { return b / 64 }), 4}, {by(func(b int) int { return b % 64 }), 64},
		{by(func(b int) int { return b / 16 }), 16}, {by(func(b int) int { return b % 16 }), 16}, {by(func(b int) int { return b / 2 }), 128}, {by(func(b int) int { return min(b, 255-b) }), 128}, {by(func(b int) int { return b & (b >> 1 & 1) }), 2},
		// All but one byte are of a class of their own, and all are.
		{by(func(b int) int { return min(b, 254) }), 255}, {by(func(b int) int { return max(b-1, 0) }), 255}, {by(func(b int) int { return b % 255 }), 255}, {by(func(b int) int { return b }), 256},
	}
}

// turns: other numbers for numbers, so that no two become one.
func turns() []func(n uint8) uint8 {
	return []func(n uint8) uint8{
		func(n uint8) uint8 { return n },
		func(n uint8) uint8 { return n + 1 },
		func(n uint8) uint8 { return n - 1 },
		func(n uint8) uint8 { return 255 - n },
		func(n uint8) uint8 { return n + 128 },
		func(n uint8) uint8 { return n ^ 1 },
		func(n uint8) uint8 { return 3 * n },
		func(n uint8) uint8 { return 171*n + 99 },
		func(n uint8) uint8 { return n<<4 | n>>4 },
	}
}

// Numbers written out.
func TestP1902NormWrittenOut(t *testing.T) {
	for _, n := range []uint8{0, 1, 7, 254, 255} {
		holdNorm(t, turned(classes{}, func(uint8) uint8 { return n }), classes{}, 1)
	}
	// The last byte alone has 0; the first one has.
	holdNorm(t, by(func(b int) int { return 1 - b/255 }), by(func(b int) int { return b / 255 }), 2)
	holdNorm(t, by(func(b int) int { return 255 * min(b, 1) }), by(func(b int) int { return min(b, 1) }), 2)
	// Numbers are left out: below the least one, between, and above the greatest one.
	of, want := starting(9, 9, 4, 255, 9, 4, 200, 200, 7, 30), starting(0, 0, 1, 2, 0, 1, 3, 3, 4, 5)
	holdNorm(t, of, want, 6)
	of[255], want[255] = 4, 1
	holdNorm(t, of, want, 6)
	of[255], want[255] = 0, 6
	holdNorm(t, of, want, 7)
	holdNorm(t, starting(4, 4, 0, 0, 4, 3), starting(0, 0, 1, 1, 0, 2), 3)
	holdNorm(t, starting(255, 254, 253, 255, 0, 1), starting(0, 1, 2, 0, 3, 4), 5)
	holdNorm(t, starting(1, 2, 3, 4, 5, 5, 4, 3, 2, 1, 0), starting(0, 1, 2, 3, 4, 4, 3, 2, 1, 0, 5), 6)
	// From the greatest number down, byte by byte.
	holdNorm(t, by(func(b int) int { return 255 - b }), by(func(b int) int { return b }), 256)
	holdNorm(t, by(func(b int) int { return 255 - b/2 }), by(func(b int) int { return b / 2 }), 128)
	// Twice as great, three times, and all odd.
	holdNorm(t, by(func(b int) int { return b / 2 * 2 }), by(func(b int) int { return b / 2 }), 128)
	holdNorm(t, by(func(b int) int { return b / 3 * 3 }), by(func(b int) int { return b / 3 }), 86)
	holdNorm(t, by(func(b int) int { return b | 1 }), by(func(b int) int { return b / 2 }), 128)
}

// Normal classes are their own Norm, and that of the same ones with other numbers.
func TestP1902NormOtherNumbers(t *testing.T) {
	for _, r := range normals() {
		for _, turn := range turns() {
			holdNorm(t, turned(r.of, turn), r.of, r.width)
		}
	}
}

// Each two bytes of one class, and all others apart.
func TestP1902NormAllButOne(t *testing.T) {
	t.Parallel()
	for x := range 256 {
		for y := x + 1; y < 256; y += 1 + (x+y)%5 {
			want := by(func(b int) int { return b })
			want[y] = uint8(x)
			of := turned(want, func(n uint8) uint8 { return 77 - n })
			for b := y + 1; b < 256; b++ {
				want[b]--
			}
			got, n := Norm(of)
			holdClasses(t, got, n, want, 255, "with %d and %d of one class Norm", x, y)
		}
	}
}

// All classes of a few bytes; the others are of one of theirs.
func TestP1902NormFewBytes(t *testing.T) {
	t.Parallel()
	few := []byte{0, 63, 64, 128, 255}
	for code := range 5 * 5 * 5 * 5 * 5 * 2 {
		of := by(func(int) int { return 250 + code%2*3 })
		left := code / 2
		for _, b := range few {
			of[b] = uint8(250 + left%5)
			left /= 5
		}
		want, width := modelNorm(of)
		holdNorm(t, of, want, width)
	}
}

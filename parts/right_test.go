package parts

import "testing"

// holdWidths: classes are right with just one width; with 0 with none.
func holdWidths(t *testing.T, of classes, width int) {
	t.Helper()
	l := []int{least, least + 1, -1 << 32, -width, -256, -255, -1, 255, 256, 257, 512, 65536, 1 << 32, greatest - 1, greatest}
	for n := range 260 {
		l = append(l, n)
	}
	// Such as are the width, if they are cut to few bits.
	for _, more := range []int{256, 65536, 1 << 32, least} {
		l = append(l, width+more, width-more)
	}
	for _, n := range l {
		holdRight(t, of, n, width > 0 && n == width)
	}
}

func TestP1902RightWidths(t *testing.T) {
	for _, r := range normals() {
		holdWidths(t, r.of, r.width)
	}
}

// Classes that are not normal are not right, with whatever width.
func TestP1902RightNotNormal(t *testing.T) {
	for _, r := range normals() {
		// The byte 0 has not 0.
		for _, turn := range turns() {
			if of := turned(r.of, turn); of != r.of {
				holdWidths(t, of, 0)
			}
		}
		// A number is left out: the last one, and each other one.
		for left := 1; left < r.width && r.width < 256; left++ {
			of := turned(r.of, func(n uint8) uint8 {
				if int(n) >= left {
					n++
				}
				return n
			})
			for _, n := range []int{r.width, r.width - 1, r.width + 1, left} {
				holdRight(t, of, n, false)
			}
		}
		// Two numbers stand the wrong way round.
		for x := range r.width {
			for y := x + 1; y < r.width; y += 1 + y/9 {
				of := turned(r.of, func(n uint8) uint8 {
					switch int(n) {
					case x:
						return uint8(y)
					case y:
						return uint8(x)
					}
					return n
				})
				holdRight(t, of, r.width, false)
			}
		}
	}
	holdWidths(t, by(func(int) int { return 1 }), 0)
	holdWidths(t, by(func(int) int { return 255 }), 0)
	holdWidths(t, by(func(b int) int { return 255 - b }), 0)
	holdWidths(t, by(func(b int) int { return 1 - b/255 }), 0)
	holdWidths(t, by(func(b int) int { return b / 255 * 2 }), 0)
	holdWidths(t, by(func(b int) int { return b / 255 * 255 }), 0)
	holdWidths(t, by(func(b int) int { return b % 2 * 2 }), 0)
}

// One byte with each other number.
func TestP1902RightOneOther(t *testing.T) {
	t.Parallel()
	for _, r := range normals() {
		for _, b := range []int{0, 1, 2, 63, 64, 96, 97, 98, 127, 128, 253, 254, 255} {
			for n := range 256 {
				of := r.of
				of[b] = uint8(n)
				_, width := modelNorm(of)
				holdRight(t, of, width, modelRight(of, width))
				holdRight(t, of, width+1, false)
				holdRight(t, of, width-1, false)
			}
		}
	}
}

package match

import (
	"testing"

	"doublet/api"
	"doublet/sample"
)

// Each fault at the root, and at each place of other trees: also where no word comes to it.
func TestP1102ErrKind(t *testing.T) {
	t.Parallel()
	for x := range sample.Faults() {
		if holdMayNot(t, x); t.Failed() {
			return
		}
	}
	for _, x := range sample.MayNot() {
		holdMayNot(t, of(5, e(), of(4, none(), x)))
		holdMayNot(t, rep(x, 0, 0))
	}
}

// As many nodes as may be, and one more.
func TestP1102ErrKindOfTooManyNodes(t *testing.T) {
	holdEnds(t, sample.Beside(5, 4096, a()), "ab", 0, 1)
	holdEnds(t, sample.Beside(4, 4096, e()), "ab", 1, 1)
	holdEnds(t, sample.Beside(4, 4096, a()), "ab", 0)
	holdEnds(t, sample.Chain(4096), "aa", 0, 0, 1, 2)
	for _, x := range sample.TooGreat() {
		holdMayNot(t, x)
	}
	// Both Kids of a node are one and the same memory: few nodes are made, and very many met.
	x := a()
	for n := 1; n < 31; n++ {
		x = of(4, x, x)
		switch {
		case n < 9:
			holdEnds(t, x, many(256, "a"), 0, 1<<n)
		case n < 12:
			holdEnds(t, x, many(256, "a"), 0)
		default:
			holdMayNot(t, x)
		}
	}
}

func TestP1102ErrLong(t *testing.T) {
	for _, x := range []api.Node{a(), none(), e(), of(6, a()), rep(a(), 1000, -1), of(4, of(6, a()), b())} {
		for _, n := range []int{257, 258, 300, 319, 320, 321, 1000, 1 << 16, 1 << 20} {
			w := []byte(many(n, "a"))
			for _, at := range []int{least, -1, 0, 1, 255, 256, 257, n - 1, n, n + 1, greatest} {
				holdWrong(t, x, w, at, api.ErrLong)
			}
			if Full(x, w) {
				t.Errorf("Full(%s, %d bytes) is true", brief(x), n)
			}
		}
	}
	if Most != 256 {
		t.Errorf("Most is %d", Most)
	}
	holdEnds(t, of(6, a()), many(256, "a"), 255, 255, 256)
	holdEnds(t, rep(a(), 256, 256), many(256, "a"), 0, 256)
}

func TestP1102ErrArg(t *testing.T) {
	for _, x := range []api.Node{a(), none(), e(), of(6, a()), of(8, b())} {
		for _, n := range []int{0, 1, 2, 5, 63, 64, 255, 256} {
			w := []byte(many(n, "a"))
			for _, at := range []int{least, least + 1, -1 << 32, -257, -256, -64, -2, -1, n + 1, n + 2, n + 64, n + 256, 257, 1 << 32, greatest - 1, greatest} {
				holdWrong(t, x, w, at, api.ErrArg)
			}
			for _, at := range []int{0, 1, n - 1, n} {
				if at < 0 || at > n {
					continue
				}
				if _, wrong := Ends(x, w, at); wrong != api.OK {
					t.Errorf("Ends(%s, %d bytes, %d) tells %d", brief(x), n, at, wrong)
				}
			}
		}
	}
	// Full has no place to be wrong.
	if !Full(a(), []byte("a")) || !Full(e(), nil) {
		t.Error("Full")
	}
}

// Of several faults the one that the chapter names first.
func TestP1102ErrorsInOrder(t *testing.T) {
	right, wrong := of(6, a()), rep(a(), 3, 2)
	short, long := []byte("aa"), []byte(many(257, "a"))
	holdWrong(t, wrong, long, 300, api.ErrKind)
	holdWrong(t, wrong, long, 257, api.ErrKind)
	holdWrong(t, wrong, short, -1, api.ErrKind)
	holdWrong(t, wrong, short, 1, api.ErrKind)
	holdWrong(t, right, long, 300, api.ErrLong)
	holdWrong(t, right, long, -1, api.ErrLong)
	holdWrong(t, right, long, 3, api.ErrLong)
	holdWrong(t, right, short, 3, api.ErrArg)
	holdWrong(t, right, short, -1, api.ErrArg)
	holdEnds(t, right, "aa", 1, 1, 2)
}

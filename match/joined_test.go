package match

import (
	"slices"
	"testing"

	"doublet/api"
	"doublet/sample"
)

// pick: random trees, and a word of few bytes, often one that they say.
func pick(next func(int) int) (x, y api.Node, w string) {
	trees := func() api.Node {
		if next(3) == 0 {
			return sample.Grown(1+next(20), next)
		}
		return sample.Small(1+next(14), next)
	}
	x, y = trees(), trees()
	for range 1 + next(3) {
		for _, z := range []api.Node{x, y} {
			if v, ok := spoken(z, 5, next); ok && next(4) > 0 {
				w += v
			}
		}
	}
	if next(4) == 0 {
		w += anyWord(1+next(2), "abc\xff", next)
	}
	return x, y, w
}

// says: whether a tree says a word; cutting says it of the word's pieces.
type says func(w string) bool

func full(x api.Node) says { return func(w string) bool { return Full(x, []byte(w)) } }

// behind: is there a cut ahead of which the one says what there is, and behind which another one?
func (one says) behind(other says) says {
	return func(w string) bool {
		for cut := range len(w) + 1 {
			if one(w[:cut]) && other(w[cut:]) {
				return true
			}
		}
		return false
	}
}

// times: can a word be cut into from lo to hi (-1: without an end) words, none of which is empty unless it has to be?
func (one says) times(lo, hi int) says {
	return func(w string) bool {
		if w == "" && lo == 0 || hi == 0 {
			return w == ""
		}
		for cut := range len(w) + 1 {
			// An empty one brings nothing but that one less is asked for.
			if (cut > 0 || lo > 0) && one(w[:cut]) && one.times(max(lo-1, 0), max(hi-1, -1))(w[cut:]) {
				return true
			}
		}
		return false
	}
}

// holdJoined: Full of a tree is what the cuts of a word tell, and Ends is Full of all pieces.
func holdJoined(t *testing.T, x api.Node, w string, want says) bool {
	t.Helper()
	got := Full(x, []byte(w))
	if got != want(w) {
		t.Errorf("Full(%s, %q) = %t", brief(x), w, got)
	}
	for at := range len(w) + 1 {
		var ends []int
		for to := at; to <= len(w); to++ {
			if Full(x, []byte(w[at:to])) {
				ends = append(ends, to)
			}
		}
		if l, wrong := Ends(x, []byte(w), at); !slices.Equal(l, ends) || wrong != api.OK {
			t.Errorf("Ends(%s, %q, %d) = %v, %d, and Full says %v", brief(x), w, at, l, wrong, ends)
		}
	}
	return got
}

func TestP1103Joined(t *testing.T) {
	t.Parallel()
	next := sample.Chances()
	said, all := map[string]int{}, 0
	for range 2500 {
		x, y, w := pick(next)
		if len(w) > 10 {
			continue
		}
		all++
		one, other := full(x), full(y)
		for name, r := range map[string]struct {
			x    api.Node
			says says
		}{
			"cat": {of(4, x, y), one.behind(other)},
			"row": {of(4, x, y, x), one.behind(other).behind(one)},
			"alt": {of(5, x, y), func(w string) bool { return one(w) || other(w) }},
			"any": {of(5, y, none(), x), func(w string) bool { return one(w) || other(w) }},
			"opt": {of(8, x), func(w string) bool { return w == "" || one(w) }},
		} {
			if holdJoined(t, r.x, w, r.says) {
				said[name]++
			}
		}
		if t.Failed() {
			return
		}
	}
	for _, name := range []string{"cat", "row", "alt", "any", "opt"} {
		if n := said[name]; n < all/20 || n > all*19/20 {
			t.Errorf("of %d words %d were said by %s", all, n, name)
		}
	}
}

func TestP1103AgainAndAgain(t *testing.T) {
	t.Parallel()
	next := sample.Chances()
	said, all := map[[2]int]int{}, 0
	several := [][2]int{{0, -1}, {1, -1}, {2, -1}, {3, -1}, {0, 0}, {0, 1}, {0, 2}, {1, 1}, {1, 2}, {2, 2}, {2, 3}, {3, 5}}
	for range 1500 {
		x, _, w := pick(next)
		if len(w) > 7 {
			continue
		}
		all++
		one := full(x)
		for _, ends := range several {
			if holdJoined(t, rep(x, ends[0], ends[1]), w, one.times(ends[0], ends[1])) {
				said[ends]++
			}
		}
		holdJoined(t, of(6, x), w, one.times(0, -1))
		holdJoined(t, of(7, x), w, one.times(1, -1))
		if t.Failed() {
			return
		}
	}
	for _, ends := range several {
		if n := said[ends]; n < all/20 || n > all*19/20 {
			t.Errorf("of %d words %d were said from %d to %d times", all, n, ends[0], ends[1])
		}
	}
}

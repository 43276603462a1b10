package quotient

import (
	"slices"
	"testing"

	"doublet/api"
	"doublet/sample"
)

// holdJoined: Join of blocks that are Stable is finer than both, and Stable; so it is whichever comes first.
func holdJoined(t *testing.T, d api.Dfa, a, b []int) []int {
	t.Helper()
	l := Join(a, b)
	holdBlocks(t, Join(b, a), l, "Join of %s and %s", many(b), many(a))
	if !Finer(l, a) || !Finer(l, b) || !modelFiner(l, a) || !modelFiner(l, b) {
		t.Errorf("Join of %s and %s is %s, which is not finer", many(a), many(b), many(l))
	}
	if !Stable(d, a) || !Stable(d, b) || !Stable(d, l) || !modelStable(d, l) {
		t.Errorf("Join of %s and %s is %s; one is not Stable, of %s", many(a), many(b), many(l), brief(d))
	}
	return l
}

func TestP2306WrittenOut(t *testing.T) {
	// A ring: rests by two numbers are rests by the least one that has both.
	d := ring("", make([]int, 12)...)
	for _, r := range [][3]int{{4, 6, 12}, {2, 3, 6}, {3, 4, 12}, {2, 4, 4}, {6, 3, 6}, {1, 2, 2}, {1, 1, 1}, {12, 1, 12}, {6, 6, 6}, {12, 4, 12}} {
		holdBlocks(t, holdJoined(t, d, rest(12, r[0]), rest(12, r[1])), rest(12, r[2]), "Join of rests by %d and %d", r[0], r[1])
	}
	// Two sides, and two levels, of a tree.
	d = tree(0)
	holdBlocks(t, holdJoined(t, d, ints(0, 1, 2, 3, 3, 4, 4), ints(0, 1, 1, 3, 4, 3, 4)), upTo(0, 7), "Join of sides")
	holdBlocks(t, holdJoined(t, d, ints(0, 1, 2, 3, 3, 3, 3), ints(0, 1, 1, 3, 4, 3, 4)), ints(0, 1, 2, 3, 4, 3, 4), "Join of levels")
	holdBlocks(t, holdJoined(t, d, ints(0, 1, 2, 3, 4, 4, 4), ints(0, 1, 2, 3, 3, 3, 4)), ints(0, 1, 2, 3, 4, 4, 5), "Join of ends")
	// Where each state leads to itself alone all blocks are Stable.
	holdBlocks(t, holdJoined(t, quiet(4, 3), ints(0, 0, 1, 1), ints(0, 1, 1, 0)), upTo(0, 4), "Join of what crosses")
	holdBlocks(t, holdJoined(t, quiet(4, 3), ints(0, 0, 0, 1), ints(0, 1, 1, 1)), ints(0, 1, 1, 2), "Join of what overlaps")
}

// All small machines, with all pairs of blocks that are Stable.
func TestP2306SmallMachines(t *testing.T) {
	t.Parallel()
	joined, neither := 0, 0
	for _, size := range [][3]int{{1, 1, 1}, {2, 1, 1}, {2, 2, 1}, {3, 1, 2}, {3, 2, 1}, {4, 1, 1}} {
		all := partitions(size[0])
		sample.EachDfa(size[0], size[1], size[2], func(d api.Dfa) {
			var stable [][]int
			for _, l := range all {
				if modelStable(d, l) {
					stable = append(stable, l)
				}
			}
			for i, a := range stable {
				for _, b := range stable[:i+1] {
					if t.Failed() {
						return
					}
					l := holdJoined(t, d, a, b)
					if joined++; !slices.Equal(l, a) && !slices.Equal(l, b) {
						neither++
					}
				}
			}
		})
	}
	if joined < 20000 || neither < 1000 {
		t.Errorf("%d blocks were joined, of which in %d neither was finer", joined, neither)
	}
}

// woven: a machine whose states are pairs of states of two that are each as one machine's; the pairs are as one of that one's. And blocks of it: by the one, by the other one, by that one.
func woven(a, b api.Dfa, as, bs []int) (api.Dfa, [][]int) {
	places := map[[2]int]int{}
	var pairs [][2]int
	for s, one := range as {
		for u, other := range bs {
			if one == other {
				places[[2]int{s, u}] = len(pairs)
				pairs = append(pairs, [2]int{s, u})
			}
		}
	}
	made := api.Dfa{Of: a.Of, Width: a.Width, Names: a.Names}
	blocks := make([][]int, 3)
	for _, pair := range pairs {
		s, u := pair[0], pair[1]
		row := by(a.Width, func(class int) int { return places[[2]int{a.Next[s][class], b.Next[u][class]}] })
		made.Next, made.Label = append(made.Next, row), append(made.Label, a.Label[s])
		blocks[0], blocks[1], blocks[2] = append(blocks[0], s), append(blocks[1], u), append(blocks[2], as[s])
	}
	return made, blocks
}

// Random machines that have several blocks which are Stable: those of pairs, and of pairs of pairs.
func TestP2306RandomMachines(t *testing.T) {
	t.Parallel()
	next := sample.Chances()
	neither := 0
	for i := range 300 {
		one := sample.AnyDfa(1+i%4, next)
		unfolded := func() (api.Dfa, []int) { return sample.Unfolded(one, len(one.Label)+next(4), next) }
		a, as := unfolded()
		b, bs := unfolded()
		c, cs := unfolded()
		pairs, blocks := woven(a, b, as, bs)
		d, threes := woven(pairs, c, blocks[2], cs)
		// By the one, the other, the third; by two of them; by that as which all are; each alone.
		l := [][]int{turned(threes[0], func(n int) int { return blocks[0][n] }), turned(threes[0], func(n int) int { return blocks[1][n] }), threes[1], threes[0], threes[2], upTo(0, len(d.Label))}
		for i, some := range l {
			some = turned(modelNorm(some), sample.OneOf(turns(), next))
			for _, other := range l[:i+1] {
				joined := holdJoined(t, d, some, turned(modelNorm(other), sample.OneOf(turns(), next)))
				if !modelFiner(some, other) && !modelFiner(other, some) {
					neither++
				}
				// Joined again, with each of the others.
				holdJoined(t, d, joined, l[next(len(l))])
			}
		}
		// Those of the first two together are those of the pairs; with the third one each state is alone.
		holdBlocks(t, Join(l[0], l[1]), modelNorm(threes[0]), "Join of the parts of pairs")
		if holdBlocks(t, Join(Join(l[0], l[2]), l[1]), l[5], "Join of three"); t.Failed() {
			return
		}
	}
	if neither < 300 {
		t.Errorf("only so often neither was finer: %d", neither)
	}
}

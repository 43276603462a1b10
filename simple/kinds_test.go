package simple

import (
	"strings"
	"testing"

	"doublet/api"
	"doublet/sample"
)

// Of a part of each kind: none, the empty one, a set, a row, a choice, and what repeats.
func TestP1202StarPlusOpt(t *testing.T) {
	ab, either := of(4, a(), b()), of(5, of(6, a()), b())
	for _, r := range []struct{ x, star, plus, opt api.Node }{
		{none(), e(), none(), e()},
		{e(), e(), e(), e()},
		{a(), of(6, a()), of(7, a()), of(8, a())},
		{ab, of(6, ab), of(7, ab), of(8, ab)},
		{either, of(6, either), of(7, either), of(8, either)},
		{of(6, a()), of(6, a()), of(6, a()), of(6, a())},
		{of(7, a()), of(6, a()), of(7, a()), of(6, a())},
		{of(8, a()), of(6, a()), of(6, a()), of(8, a())},
		{times(a(), 2, 3), of(6, times(a(), 2, 3)), of(7, times(a(), 2, 3)), of(8, times(a(), 2, 3))},
		// What the kid is makes no difference.
		{of(6, ab), of(6, ab), of(6, ab), of(6, ab)},
		{of(7, either), of(6, either), of(7, either), of(6, either)},
		{of(8, times(a(), 0, 2)), of(6, times(a(), 0, 2)), of(6, times(a(), 0, 2)), of(8, times(a(), 0, 2))},
		{of(7, times(of(6, a()), 2, -1)), of(6, times(of(6, a()), 2, -1)), of(7, times(of(6, a()), 2, -1)), of(6, times(of(6, a()), 2, -1))},
		// Nor that it says the empty word.
		{of(5, a(), e()), of(6, of(5, a(), e())), of(7, of(5, a(), e())), of(8, of(5, a(), e()))},
		{times(a(), 0, 3), of(6, times(a(), 0, 3)), of(7, times(a(), 0, 3)), of(8, times(a(), 0, 3))},
	} {
		holdStar(t, r.star, r.x)
		holdPlus(t, r.plus, r.x)
		holdOpt(t, r.opt, r.x)
	}
}

// Each of the three, of each of the three, of each of the three.
func TestP1202ThreeOfThree(t *testing.T) {
	signs := map[string]func(api.Node) api.Node{"*": Star, "+": Plus, "?": Opt}
	for _, r := range strings.Fields("**:* *+:* *?:* +*:* ++:+ +?:* ?*:* ?+:* ??:?") {
		for _, x := range []string{"a", "(ab)", "a{2,3}", "(ab|c)"} {
			want := read(x + r[3:])
			got := signs[r[1:2]](signs[r[:1]](read(x)))
			holdTree(t, got, want, x+r[:2])
			holdOf(t, read(x+r[:2]), want)
			for third, one := range signs {
				twice := r[3:]
				if third != twice {
					twice = "*"
				}
				holdTree(t, one(got), read(x+twice), x+r[:2]+third)
				holdOf(t, read(x+r[:2]+third), read(x+twice))
			}
		}
	}
}

// numbers: Lo and Hi at their edges, each with what stands for it in the rows below.
var numbers = [][2]int{{0, 0}, {0, 1}, {0, -1}, {1, 1}, {1, -1}, {1, 2}, {0, 2}, {2, 2}, {2, -1}, {0, 1000}, {1000, 1000}, {1000, -1}, {1, 1000}, {0, 3}, {999, 1000}}

// Each part with all numbers.
func TestP1202Rep(t *testing.T) {
	for x, texts := range map[string]string{
		"":         "() () () () () () () () () () () () () () ()",
		"a":        "() a? a* a a+ a{1,2} a{0,2} a{2} a{2,} a{0,1000} a{1000} a{1000,} a{1,1000} a{0,3} a{999,1000}",
		"ab":       "() (ab)? (ab)* ab (ab)+ (ab){1,2} (ab){0,2} (ab){2} (ab){2,} (ab){0,1000} (ab){1000} (ab){1000,} (ab){1,1000} (ab){0,3} (ab){999,1000}",
		"ab|":      "() (ab|)? (ab|)* ab| (ab|)+ (ab|){1,2} (ab|){0,2} (ab|){2} (ab|){2,} (ab|){0,1000} (ab|){1000} (ab|){1000,} (ab|){1,1000} (ab|){0,3} (ab|){999,1000}",
		"a*":       "() a* a* a* a* (a*){1,2} (a*){0,2} (a*){2} (a*){2,} (a*){0,1000} (a*){1000} (a*){1000,} (a*){1,1000} (a*){0,3} (a*){999,1000}",
		"a+":       "() a* a* a+ a+ (a+){1,2} (a+){0,2} (a+){2} (a+){2,} (a+){0,1000} (a+){1000} (a+){1000,} (a+){1,1000} (a+){0,3} (a+){999,1000}",
		"a?":       "() a? a* a? a* (a?){1,2} (a?){0,2} (a?){2} (a?){2,} (a?){0,1000} (a?){1000} (a?){1000,} (a?){1,1000} (a?){0,3} (a?){999,1000}",
		"a{2,3}":   "() a{2,3}? a{2,3}* a{2,3} a{2,3}+ a{2,3}{1,2} a{2,3}{0,2} a{2,3}{2} a{2,3}{2,} a{2,3}{0,1000} a{2,3}{1000} a{2,3}{1000,} a{2,3}{1,1000} a{2,3}{0,3} a{2,3}{999,1000}",
		"(ab){2,}": "() (ab){2,}? (ab){2,}* (ab){2,} (ab){2,}+ (ab){2,}{1,2} (ab){2,}{0,2} (ab){2,}{2} (ab){2,}{2,} (ab){2,}{0,1000} (ab){2,}{1000} (ab){2,}{1000,} (ab){2,}{1,1000} (ab){2,}{0,3} (ab){2,}{999,1000}",
	} {
		l := strings.Fields(texts)
		if len(l) != len(numbers) {
			t.Fatalf("there are %d texts for %s", len(l), x)
		}
		for i, text := range l {
			holdRep(t, read(text), read(x), numbers[i][0], numbers[i][1])
		}
	}
}

// Of KindNone the Lo tells; of KindEmpty no number does.
func TestP1202RepOfNoneAndEmpty(t *testing.T) {
	for _, lo := range []int{0, 1, 2, 3, 999, 1000} {
		for _, hi := range []int{-1, 0, 1, 2, 3, 999, 1000} {
			if hi != -1 && hi < lo {
				continue
			}
			holdRep(t, e(), e(), lo, hi)
			if lo == 0 {
				holdRep(t, e(), none(), lo, hi)
			} else {
				holdRep(t, none(), none(), lo, hi)
			}
		}
	}
}

// What repeats so often, and that so often again, stays: also where it could be one.
func TestP1202RepOfRep(t *testing.T) {
	for _, inner := range numbers[5:] {
		x := times(a(), inner[0], inner[1])
		for _, outer := range numbers[5:] {
			holdRep(t, times(x, outer[0], outer[1]), x, outer[0], outer[1])
		}
		holdRep(t, e(), x, 0, 0)
		holdRep(t, x, x, 1, 1)
		holdRep(t, of(8, x), x, 0, 1)
		holdRep(t, of(6, x), x, 0, -1)
		holdRep(t, of(7, x), x, 1, -1)
	}
}

// All numbers that may be, but for those far from all edges.
func TestP1202RepAllNumbers(t *testing.T) {
	for lo := 0; lo <= 1000; lo += 1 + lo/4*3 {
		for hi := -1; hi <= 1000; hi += 1 + max(hi, 0)/6 {
			if hi != -1 && hi < lo {
				continue
			}
			for _, x := range []api.Node{a(), of(6, a()), of(7, of(4, a(), b())), of(8, a()), of(5, e(), of(6, a())), times(a(), 1, 2)} {
				holdRep(t, modelled(times(x, lo, hi)), x, lo, hi)
				if lo > 1 || hi > 1 {
					holdRep(t, times(x, lo, hi), x, lo, hi)
				}
			}
		}
	}
}

// Those of one kid, of trees of many nodes: what is below them stays whole.
func TestP1202OfGreatTrees(t *testing.T) {
	next := sample.Chances()
	met := 0
	for range 400 {
		x := modelled(sample.Small(30+next(60), next))
		holdStar(t, modelled(of(6, x)), x)
		holdPlus(t, modelled(of(7, x)), x)
		holdOpt(t, modelled(of(8, x)), x)
		holdRep(t, modelled(times(x, 0, 2)), x, 0, 2)
		holdCat(t, modelled(of(4, x, x)), x, x)
		holdAlt(t, x, x, x)
		if len(x.Kids) > 2 {
			met++
		}
	}
	if met < 100 {
		t.Errorf("only %d trees are great", met)
	}
}

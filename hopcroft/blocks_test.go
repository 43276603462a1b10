package hopcroft

import (
	"slices"
	"testing"

	"doublet/api"
	"doublet/quotient"
	"doublet/sample"
)

// tree: a machine of seven states and two classes: 0 leads to 1 and 2, these to 3 to 6, which stay, with labels.
func tree(labels ...int) api.Dfa {
	return rows("x y", append(ints(0, 0, 0), labels...), ints(1, 2), ints(3, 4), ints(5, 6), ints(3, 3), ints(4, 4), ints(5, 5), ints(6, 6))
}

func TestP2502BlocksWrittenOut(t *testing.T) {
	for _, r := range []struct {
		d    api.Dfa
		want []int
	}{
		// One state, with a label, and without one; two of them.
		{quiet(1, 1), ints(0)}, {ring("x", 1), ints(0)}, {quiet(1, 256), ints(0)},
		{quiet(2, 1), ints(0, 0)}, {ring("x", 1, 0), ints(0, 1)}, {ring("x", 1, 1), ints(0, 0)}, {ring("x y", 2, 1), ints(0, 1)}, {ring("x y", 2, 2), ints(0, 0)},
		{rows("x", ints(0, 1), ints(0, 1), ints(1, 1)), ints(0, 1)}, {rows("", ints(0, 0), ints(1, 0), ints(1, 1)), ints(0, 0)},
		// All alike: without a label, and all with the same one.
		{leading(9, 3, 0), make([]int, 9)}, {withLabels(leading(9, 3, 0), "x", slices.Repeat(ints(1), 9)), make([]int, 9)}, {withLabels(row(9), "x", make([]int, 9)), make([]int, 9)},
		// Labels alone tell states apart, whatever numbers they have; blocks are numbered by their least states.
		{withLabels(quiet(5, 2), "x", ints(0, 1, 1, 0, 1)), ints(0, 1, 1, 0, 1)}, {withLabels(quiet(3, 1), "x", ints(1, 0, 1)), ints(0, 1, 0)},
		{withLabels(quiet(6, 1), "a b c", ints(3, 1, 0, 3, 2, 1)), ints(0, 1, 2, 0, 3, 1)}, {withLabels(quiet(4, 1), "a b c", ints(3, 2, 2, 3)), ints(0, 1, 1, 0)},
		// A row of which the last one is told, or the first one.
		{row(3), upTo(0, 3)}, {row(4), upTo(0, 4)}, {row(5), upTo(0, 5)}, {rows("x", ints(1, 0, 0, 0), ints(0), ints(0), ints(1), ints(2)), upTo(0, 4)},
		// A row whose end is there twice.
		{rows("x", ints(0, 0, 0, 1, 1), ints(1), ints(2), ints(3), ints(4), ints(3)), ints(0, 1, 2, 3, 3)}, {rows("x", ints(0, 0, 1, 1), ints(2), ints(3), ints(2), ints(3)), ints(0, 0, 1, 1)},
		// Rings, with labels that come again, or do not.
		{ring("x", 1, 0, 1, 0), ints(0, 1, 0, 1)}, {ring("x", 1, 0, 0, 1, 0, 0), ints(0, 1, 2, 0, 1, 2)}, {ring("x", 1, 1, 0, 0), upTo(0, 4)}, {ring("x", 0, 0, 0, 1), upTo(0, 4)},
		{ring("x y", 1, 1, 2, 2, 1, 1, 2, 2), ints(0, 1, 2, 3, 0, 1, 2, 3)}, {ring("x", 0, 1, 0, 1, 0, 0), upTo(0, 6)},
		// Two rings: as long as each other, one twice as long as the other, and such as are not told apart by their first labels.
		{rows("x y", ints(1, 2, 1, 2), ints(1), ints(0), ints(3), ints(2)), ints(0, 1, 0, 1)}, {rows("x y", ints(1, 2, 1, 2), ints(3), ints(2), ints(1), ints(0)), ints(0, 1, 0, 1)},
		{rows("x", ints(1, 0, 1, 0, 1, 0), ints(1), ints(0), ints(3), ints(4), ints(5), ints(2)), ints(0, 1, 0, 1, 0, 1)},
		{rows("x", ints(1, 0, 1, 0, 0), ints(1), ints(0), ints(3), ints(4), ints(2)), ints(0, 1, 2, 3, 4)},
		// A tree: ends that differ, or do not, on both sides, or on one.
		{tree(0, 0, 0, 0), make([]int, 7)}, {tree(1, 1, 1, 1), ints(0, 1, 1, 2, 2, 2, 2)}, {tree(1, 2, 1, 2), ints(0, 1, 1, 2, 3, 2, 3)}, {tree(1, 2, 2, 1), ints(0, 1, 2, 3, 4, 4, 3)},
		{tree(0, 0, 0, 1), ints(0, 1, 2, 1, 1, 1, 3)}, {tree(1, 0, 0, 0), ints(0, 1, 2, 3, 2, 2, 2)},
		// What the first class, the second or the third one alone tells apart; two that each tell apart what the other does not.
		{rows("x", ints(0, 0, 1), ints(0, 0, 0), ints(2, 1, 1), ints(2, 2, 2)), upTo(0, 3)}, {rows("x", ints(0, 0, 1), ints(0, 0, 0), ints(1, 2, 1), ints(2, 2, 2)), upTo(0, 3)},
		{rows("x", ints(0, 0, 1), ints(0, 0, 0), ints(1, 1, 2), ints(2, 2, 2)), upTo(0, 3)},
		{rows("x", ints(0, 0, 0, 0, 1), ints(0, 0), ints(4, 0), ints(0, 4), ints(4, 4), ints(4, 4)), upTo(0, 5)},
		{rows("x", ints(0, 0, 0, 0, 1), ints(0, 4), ints(4, 0), ints(2, 4), ints(4, 2), ints(4, 4)), ints(0, 1, 0, 1, 2)},
		{rows("x", ints(0, 0, 0, 0, 1), ints(0, 4), ints(4, 0), ints(1, 4), ints(4, 2), ints(4, 4)), upTo(0, 5)},
		// The same blocks behind them, by other classes, are not the same.
		{rows("x", ints(0, 0, 1), ints(0, 2), ints(2, 1), ints(2, 2)), upTo(0, 3)},
		// Alike ones that lead to each other, and to themselves.
		{rows("x", ints(0, 0, 1), ints(1, 2), ints(0, 2), ints(2, 2)), ints(0, 0, 1)}, {rows("x", ints(0, 0, 0, 1), ints(1, 3), ints(2, 3), ints(0, 3), ints(0, 1)), ints(0, 0, 0, 1)},
		// A block that is parted by itself: it leads to itself by one class, in part, and by the other one to both parts.
		{rows("x", ints(0, 0, 0, 0, 1), ints(0, 1), ints(0, 2), ints(0, 3), ints(4, 0), ints(4, 4)), upTo(0, 5)},
		{rows("x", ints(0, 0, 0, 0, 1), ints(1, 0), ints(2, 0), ints(3, 0), ints(4, 3), ints(4, 4)), upTo(0, 5)},
		{rows("x y", ints(1, 1, 1, 1, 2, 2), ints(1, 2), ints(0, 3), ints(3, 0), ints(2, 4), ints(5, 0), ints(4, 1)), upTo(0, 6)},
		// No word leads to 2, 3 and 4: they are told apart, or not, as all others are, and are alike to such as words lead to.
		{rows("x", ints(0, 1, 0, 0, 0), ints(1), ints(1), ints(1), ints(2), ints(3)), ints(0, 1, 0, 2, 3)}, {rows("x", ints(0, 1, 0, 1, 1), ints(1), ints(0), ints(3), ints(2), ints(4)), ints(0, 1, 0, 1, 2)},
		{rows("x", ints(0, 0, 0, 0, 1), ints(0), ints(2), ints(1), ints(4), ints(4)), ints(0, 0, 0, 1, 2)}, {rows("", ints(0, 0, 0, 0), ints(0), ints(2), ints(3), ints(1)), make([]int, 4)},
		{rows("x y", ints(1, 1, 2, 2), ints(0), ints(0), ints(0), ints(2)), ints(0, 0, 1, 2)},
	} {
		if holdEverywhere(t, r.d, r.want); t.Failed() {
			return
		}
	}
}

// Rows of states of which just the last one is told, in whatever order the states stand; also by all classes, and with labels elsewhere.
func TestP2502BlocksOfRows(t *testing.T) {
	t.Parallel()
	next := sample.Chances()
	for states := 1; states <= 130; states++ {
		all := upTo(0, states)
		two := row(states)
		two.Names = split("x y")
		for _, d := range []api.Dfa{row(states), sample.Spread(row(states), 1+next(5), next), withLabel(two, states/2, 2), withLabel(two, 0, 2)} {
			if holdEverywhere(t, d, all); t.Failed() {
				return
			}
		}
		// Back from the last one to the first: of a ring all are told apart, too.
		holdAlike(t, withNext(row(states), states-1, 0, 0), all)
		// No label, or one at all states.
		for label := range 2 {
			holdAlike(t, withLabels(row(states), "x", slices.Repeat(ints(label), states)), make([]int, states))
		}
		// Each state has its own, or none: there is nothing to be parted.
		if states <= api.MaxRules+1 {
			d := row(states)
			d.Names, d.Label = called(api.MaxRules), sample.Turned(all)
			holdEverywhere(t, d, all)
		}
	}
}

// Rings of states of which one is told, or each of a rest.
func TestP2502BlocksOfRings(t *testing.T) {
	t.Parallel()
	for states := 1; states <= 48; states++ {
		for length := 1; length <= states; length++ {
			if states%length == 0 {
				d := ring("x", by(states, func(s int) int { return 1 - min(s%length, 1) })...)
				if holdEverywhere(t, d, rest(states, length)); t.Failed() {
					return
				}
			}
		}
	}
}

// Whichever of many classes, of whichever of many states, tells two apart; and a class that tells a whole row apart, while all others lead to its first state.
func TestP2502BlocksOneClass(t *testing.T) {
	t.Parallel()
	for _, width := range ints(1, 2, 17, 128, 256) {
		for _, class := range slices.Compact(ints(0, width/3, width-1)) {
			for _, s := range ints(1, 50, 97) {
				// All lead to 0, but for one that leads to the last one, which has a label.
				d := withLabels(quiet(99, width), "x", by(99, func(s int) int { return s / 98 }))
				for _, row := range d.Next[:98] {
					clear(row)
				}
				holdAlike(t, d, by(99, func(some int) int { return max(some-97, 0) }))
				holdAlike(t, withNext(d, s, class, 98), quotient.Norm(by(99, func(some int) int {
					switch some {
					case s:
						return 1
					case 98:
						return 2
					}
					return 0
				})))
			}
			for _, states := range ints(2, 3, 40) {
				d := withLabels(quiet(states, width), "x", row(states).Label)
				for s, row := range d.Next {
					clear(row)
					row[class] = min(s+1, states-1)
				}
				if holdEverywhere(t, d, upTo(0, states)); t.Failed() {
					return
				}
			}
		}
	}
}

// Machines in which no two states are alike, by many classes: words of bits, and numbers by their bits.
func TestP2502BlocksOfBits(t *testing.T) {
	t.Parallel()
	for bits := 1; bits <= 8; bits++ {
		all := upTo(0, 1<<bits)
		holdEverywhere(t, shifted(bits), all)
		holdEverywhere(t, sample.Bitwise(bits), all)
		// The bit that comes last is told instead: there is no more to be known.
		holdEverywhere(t, withLabels(shifted(bits), "x", rest(1<<bits, 2)), rest(1<<bits, 2))
		// The states 0 and 1 of the numbers have the label, and lead to nothing else.
		holdEverywhere(t, withLabel(sample.Bitwise(bits), 1, 1), by(1<<bits, func(s int) int { return max(s-1, 0) }))
	}
}

// Machines of which no two states are alike, with each state once and more often.
func TestP2502BlocksOfSeveral(t *testing.T) {
	t.Parallel()
	next := sample.Chances()
	for _, small := range []api.Dfa{ring("x", 1), row(2), row(7), leading(20, 3, 5), ring("x", 1, 0, 0, 0, 0), tree(1, 2, 2, 1), shifted(4), sample.Bitwise(5), leading(3, 256, 1)} {
		blocks := Blocks(small)
		holdEverywhere(t, small, blocks)
		for _, times := range ints(1, 2, 3, 10) {
			d, as := sample.Unfolded(small, times*len(small.Label)+next(3), next)
			d = sample.Spread(d, 1+next(3), next)
			if holdEverywhere(t, d, moved(by(len(as), func(s int) int { return blocks[as[s]] }), upTo(0, len(as)))); t.Failed() {
				return
			}
		}
	}
}

// Two machines side by side, of which no word leads to the second one: in each of both states are alike as they are without the other one.
func TestP2502BlocksSideBySide(t *testing.T) {
	t.Parallel()
	next := sample.Chances()
	across := 0
	for range 800 {
		a, b := sample.AnyDfa(1+next(8), next), sample.AnyDfa(1+next(8), next)
		b.Of, b.Width = a.Of, a.Width
		for s, row := range b.Next {
			b.Next[s] = by(a.Width, func(class int) int { return row[class%len(row)] })
		}
		a.Names, b.Names = called(api.MaxRules), called(api.MaxRules)
		states := len(a.Label)
		x := a
		x.Next, x.Label = slices.Clone(a.Next), slices.Concat(a.Label, b.Label)
		for _, row := range b.Next {
			x.Next = append(x.Next, by(a.Width, func(class int) int { return states + row[class] }))
		}
		l := Blocks(x)
		holdBlocks(t, quotient.Norm(l[:states]), Blocks(a), "Blocks of the first half of %s", brief(x))
		holdBlocks(t, quotient.Norm(l[states:]), Blocks(b), "Blocks of the second half of %s", brief(x))
		small, _ := Small(a)
		holdDfa(t, told(Small(x)), small, "Small of %s", brief(x))
		if holdAlike(t, x, l); slices.Max(l[:states]) >= slices.Min(l[states:]) {
			across++
		}
		if t.Failed() {
			return
		}
	}
	if across < 300 {
		t.Errorf("only so often states of both were alike: %d", across)
	}
}

package hopcroft

import (
	"slices"
	"testing"

	"doublet/api"
	"doublet/dfa"
	"doublet/quotient"
	"doublet/sample"
)

// holdSmall: of a machine Small tells just this one, of which no two states are alike.
func holdSmall(t *testing.T, d, want api.Dfa) {
	t.Helper()
	holdDfa(t, told(Small(d)), want, "Small of %s", brief(d))
	holdAlone(t, want)
}

func TestP2502SmallWrittenOut(t *testing.T) {
	// All states are met, and a label can be come to from each: none are alike, and some.
	for _, d := range []api.Dfa{quiet(1, 1), quiet(1, 256), ring("x", 1), ring("x y", 2, 1, 1), row(2), row(9), ring("x y z", 3, 0, 2, 1)} {
		holdSmall(t, d, d)
	}
	holdSmall(t, tree(1, 2, 1, 2), rows("x y", ints(0, 0, 1, 2), ints(1, 1), ints(2, 3), ints(2, 2), ints(3, 3)))
	holdSmall(t, tree(1, 2, 2, 1), rows("x y", ints(0, 0, 0, 1, 2), ints(1, 2), ints(3, 4), ints(4, 3), ints(3, 3), ints(4, 4)))
	holdSmall(t, tree(1, 1, 1, 1), rows("x y", ints(0, 0, 1), ints(1, 1), ints(2, 2), ints(2, 2)))
	holdSmall(t, ring("x", 1, 0, 0, 1, 0, 0), ring("x", 1, 0, 0))
	holdSmall(t, ring("x y", 2, 2, 2), ring("x y", 2))
	// 0 is alike to the last one; rows lead into the own block, to a later one, and to an earlier one.
	holdSmall(t, rows("x", ints(0, 1, 1, 0), ints(3, 1), ints(1, 0), ints(2, 3), ints(0, 2)), rows("x", ints(0, 1), ints(0, 1), ints(1, 0)))
	// To some no word leads: such as are alike to others, such as are not, and such as lead to 0, or to each other.
	holdSmall(t, rows("x", ints(0, 1, 0, 0), ints(2), ints(1), ints(1), ints(0)), row(3))
	holdSmall(t, rows("x", ints(0, 0, 1, 0, 1, 0), ints(1), ints(2), ints(2), ints(4), ints(4), ints(3)), row(3))
	holdSmall(t, rows("x y", ints(1, 2, 2), ints(0), ints(2), ints(1)), rows("x y", ints(1), ints(0)))
	// Two that are alike to each other alone, and not where words lead.
	holdSmall(t, rows("x", ints(0, 1, 0, 0), ints(1), ints(1), ints(0), ints(0)), row(2))
	// From some no label can be come to: they become one, which stays.
	holdSmall(t, rows("x", ints(0, 1, 0, 0), ints(1, 2), ints(1, 3), ints(3, 3), ints(2, 2)), rows("x", ints(0, 1, 0), ints(1, 2), ints(1, 2), ints(2, 2)))
	holdSmall(t, rows("x", ints(0, 1, 0), ints(1, 2), ints(1, 2), ints(2, 2)), rows("x", ints(0, 1, 0), ints(1, 2), ints(1, 2), ints(2, 2)))
	// Both: no word leads to 1 and 4, and from 3, 5 and 1 no label can be come to.
	holdSmall(t, rows("x", ints(0, 0, 1, 0, 1, 0), ints(3, 2), ints(1, 3), ints(5, 2), ints(5, 3), ints(2, 0), ints(3, 5)), rows("x", ints(0, 0, 1), ints(1, 2), ints(1, 1), ints(1, 2)))
	// None is told: one state is left, and the names stay. To the one that has a label no word leads.
	holdSmall(t, leading(9, 3, 0), quiet(1, 3))
	holdSmall(t, withLabels(row(9), "x", make([]int, 9)), ring("x", 0))
	holdSmall(t, rows("x y", ints(0, 0, 2), ints(1), ints(0), ints(0)), ring("x y", 0))
	// All states have one label.
	holdSmall(t, withLabels(leading(9, 3, 0), "x y", slices.Repeat(ints(2), 9)), withLabels(quiet(1, 3), "x y", ints(2)))
	// States are numbered as words lead to them, by the classes, in order, and not as they were.
	holdSmall(t, rows("x y", ints(0, 1, 0, 2), ints(3, 1), ints(1, 1), ints(0, 0), ints(3, 3)), rows("x y", ints(0, 2, 1), ints(1, 2), ints(1, 1), ints(2, 2)))
	holdSmall(t, rows("x y", ints(0, 1, 1, 2, 2), ints(4, 3, 2), ints(2, 2, 2), ints(1, 1, 1), ints(4, 4, 4), ints(3, 3, 3)), rows("x y", ints(0, 2, 1), ints(1, 1, 2), ints(1, 1, 1), ints(2, 2, 2)))
	holdSmall(t, rows("x", ints(0, 1, 0, 0), ints(3), ints(1), ints(1), ints(2)), row(4))
	// Names of which no state has the label stay, wherever they stand, and so do classes that tell nothing apart.
	d := rows("d c b a", ints(0, 0, 2, 4), ints(1, 1, 1), ints(2, 2, 3), ints(2, 2, 2), ints(3, 3, 3))
	d.Of = [256]uint8{'a': 1, 'b': 2, 255: 1}
	holdSmall(t, d, d)
	x, as := sample.Unfolded(d, 9, sample.Chances())
	small := told(Small(x))
	if holdAlone(t, small.d); len(small.d.Label) != 4 || small.d.Of != d.Of || small.d.Width != 3 || !slices.Equal(small.d.Names, split("d c b a")) {
		t.Errorf("Small tells %d, and %s, of %s, whose states are as %v", small.wrong, brief(small.d), brief(x), as)
	}
}

// The classes and the names come out as they are handed in, whatever they are, with all names or none of a label that a state has.
func TestP2502SmallAllElse(t *testing.T) {
	t.Parallel()
	next := sample.Chances()
	for i := range 1000 {
		d, _ := sample.AnyUnfolded(1+next(10), next)
		d.Names = sample.Shuffled(called(i%(api.MaxRules+1)), next)
		for s := range d.Label {
			d.Label[s] = next(min(len(d.Names), 3) + 1)
		}
		x, wrong := Small(d)
		if wrong != api.OK || x.Of != d.Of || x.Width != d.Width || !slices.Equal(x.Names, d.Names) {
			t.Fatalf("Small tells %d, and %s, of %s", wrong, brief(x), brief(d))
		}
	}
}

// Random machines, with states to which no word leads, and from which no label can be come to: the same as the calls tell, one by one.
func TestP2502SmallOneByOne(t *testing.T) {
	t.Parallel()
	next := sample.Chances()
	met := map[string]int{}
	for i := range 4000 {
		d, _ := sample.AnyUnfolded(1+i%30, next)
		if i%4 == 0 {
			d = renumbered(d, sample.Shuffled(upTo(0, len(d.Label)), next))
		}
		if i%3 > 0 {
			// One of few states has a label, or one of many.
			few := 3 + next(9)
			d = withLabels(d, "x y", by(len(d.Label), func(int) int { return max(0, 2-next(few)) }))
		}
		trimmed, _ := dfa.Trim(d)
		want, wrong := quotient.Of(trimmed, Blocks(trimmed))
		holdDfa(t, told(Small(d)), want, "Small of %s", brief(d))
		// Trim first, or last: to put states together that no word leads to changes nothing that is left.
		other, no := quotient.Of(d, Blocks(d))
		if other, _ = dfa.Trim(other); wrong != api.OK || no != api.OK || !dfa.Same(other, want) {
			t.Errorf("Of tells %d, and %d, and Trim behind it %s, want %s, of %s", wrong, no, brief(other), brief(want), brief(d))
		}
		gone, dead := len(trimmed.Label) < len(d.Label), len(dfa.Live(trimmed)) < len(trimmed.Label)
		switch {
		case len(want.Label) == 1 && len(d.Label) > 1:
			met["one"]++
		case gone && dead:
			met["both"]++
		case gone:
			met["gone"]++
		case dead:
			met["dead"]++
		default:
			met["neither"]++
		}
		if len(want.Label) < len(trimmed.Label) {
			met["alike"]++
		}
		if t.Failed() {
			return
		}
	}
	if len(met) != 6 || min(met["one"], 3*met["both"], met["gone"], 3*met["dead"], met["neither"], met["alike"]) < 500 {
		t.Errorf("so often there was: %v", met)
	}
}

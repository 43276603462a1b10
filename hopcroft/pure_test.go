package hopcroft

import (
	"fmt"
	"slices"
	"testing"

	"doublet/api"
	"doublet/dfa"
	"doublet/sample"
	"doublet/texts"
)

// answer: all that is told of a machine.
type answer struct {
	blocks []int
	splits int
	small  answered
}

// asked: all calls, one after another.
func asked(d api.Dfa) answer { return answer{Blocks(d), Splits(d), told(Small(d))} }

// alike: is all that was told the same?
func alike(x, y answer) bool {
	return slices.Equal(x.blocks, y.blocks) && x.splits == y.splits && x.small.wrong == y.small.wrong && dfa.Same(x.small.d, y.small.d)
}

func (x answer) String() string {
	return fmt.Sprintf("%s; %d; %d %s", many(x.blocks), x.splits, x.small.wrong, brief(x.small.d))
}

// anyMachine: a random one; some may not be, of some Small is the machine itself, and of some blocks are as labels are, or each state alone.
func anyMachine(states int, next func(most int) int) api.Dfa {
	d, _ := sample.AnyUnfolded(1+next(states), next)
	switch next(6) {
	case 0:
		return sample.SpoiltDfa(d, next)
	case 1:
		return row(2 + next(states))
	case 2:
		return ring("x y", sample.Many(1+next(states), func() int { return next(3) })...)
	case 3:
		return withMore(d, next(4), next)
	}
	return d
}

// given: all that was handed in, with the room behind it, as a text.
func given(d api.Dfa) string { return texts.Dfa(sample.StretchedDfa(d)) }

// scribble writes over all lists of an answer, and over the room behind them.
func scribble(x answer) {
	sample.ScribbleList(x.blocks, -7)
	sample.ScribbleDfa(x.small.d)
}

// What is handed in stays as it is, and so does the room behind it, which says nothing; what is told shares nothing with it, nor with another answer.
func TestP2501Memory(t *testing.T) {
	t.Parallel()
	next := sample.Chances()
	wrong, labels, alone, itself := 0, 0, 0, 0
	for range 3000 {
		d := anyMachine(10, next)
		// All lists have room behind them, with marks in it that are states of most machines.
		r := sample.RoomyDfa(d)
		kept := given(r)
		want := asked(d)
		first, second := asked(r), asked(r)
		hold := func(when string, x answer) {
			t.Helper()
			if !alike(x, want) {
				t.Errorf("%s is told of %s\n%s, want\n%s", when, brief(d), x, want)
			}
		}
		holdGiven := func(when string) {
			t.Helper()
			if given(r) != kept {
				t.Errorf("%s what was handed in became\n%s, and was\n%s", when, front(given(r)), front(kept))
			}
		}
		hold("with room behind", first)
		holdGiven("by a call")
		scribble(first)
		hold("once an answer was written over, by an earlier call", second)
		holdGiven("once an answer was written over,")
		hold("once an answer was written over, later", asked(r))
		sample.ScribbleDfa(r)
		hold("once what was handed in was written over, by an earlier call", second)
		hold("later", asked(d))
		if want.splits < 0 {
			wrong++
		} else if slices.Equal(want.blocks, d.Label) {
			labels++
		} else if slices.Equal(want.blocks, upTo(0, len(d.Label))) {
			alone++
		}
		if want.splits >= 0 && dfa.Same(want.small.d, d) {
			itself++
		}
		if t.Failed() {
			return
		}
	}
	if min(wrong, labels, alone, itself) < 200 {
		t.Errorf("so often machines might not be, blocks were the labels, and were each alone, and Small was the machine: %d, %d, %d, %d", wrong, labels, alone, itself)
	}
}

// No two lists of answers share memory, nor the room behind them, nor do they with what was handed in: each grows alone.
func TestP2501ListsGrowAlone(t *testing.T) {
	t.Parallel()
	next := sample.Chances()
	for range 1000 {
		d := sample.RoomyDfa(anyMachine(10, next))
		x, again, want := asked(d), asked(d), asked(d)
		numbers := [][]int{d.Label, x.blocks, again.blocks, x.small.d.Label, again.small.d.Label}
		for _, rows := range [][][]int{d.Next, x.small.d.Next, again.small.d.Next} {
			numbers = append(numbers, sample.StretchedList(rows)...)
		}
		if sample.SharedLists(numbers...) || sample.SharedDfas(d, x.small.d, again.small.d) {
			t.Fatalf("a place lies in two lists, of %s", brief(d))
		}
		small := x.small.d
		for _, row := range small.Next {
			_ = append(row, 77, 78)
		}
		_, _ = append(append(small.Next, ints(79)), ints(80)), append(small.Label, 77, 78)
		_, _ = append(small.Names, "other", "others"), append(x.blocks, 77, 78)
		if !alike(x, want) || !alike(asked(d), want) {
			t.Fatalf("once lists grew there is of %s\n%s, want\n%s", brief(d), x, want)
		}
	}
}

// Rows that are one memory, and labels that are a row.
func TestP2501SharedRows(t *testing.T) {
	all := ints(1, 2, 0)
	d := rows("x y", all, all, all, all)
	holdAlike(t, d, ints(0, 1, 2))
	first, second := told(Small(d)), told(Small(d))
	holdDfa(t, first, d, "Small of rows that are one")
	if sample.SharedDfas(first.d, second.d) || sample.SharedDfas(first.d, api.Dfa{Label: all}) {
		t.Error("two rows of an answer share memory")
	}
	sample.ScribbleDfa(first.d)
	holdDfa(t, second, d, "once another answer was written over, Small of rows that are one")
	// Labels that are the same blocks by other numbers, in one memory with all rows.
	all = ints(2, 2, 0, 2)
	d = rows("x y", all, all, all, all, all)
	holdAlike(t, d, ints(0, 0, 1, 0))
	Blocks(d)[1] = 77
	sample.ScribbleDfa(told(Small(d)).d)
	if !slices.Equal(all, ints(2, 2, 0, 2)) {
		t.Errorf("what was handed in is %v", all)
	}
	// Labels that are normal blocks, and all that there is to be told.
	d = ring("x y z", 0, 1, 2, 3)
	Blocks(d)[0] = 77
	sample.ScribbleDfa(told(Small(d)).d)
	holdAlike(t, d, upTo(0, 4))
	holdBlocks(t, d.Label, upTo(0, 4), "the labels")
	if !slices.Equal(d.Names, split("x y z")) {
		t.Errorf("the names are %q", d.Names)
	}
}

// Nil and empty lists mean the same.
func TestP2501Empty(t *testing.T) {
	next := sample.Chances()
	for range 300 {
		d, _ := sample.AnyUnfolded(6, next)
		d.Names, d.Label = nil, make([]int, len(d.Label))
		x := d
		x.Names = []string{}
		one, other := asked(d), asked(x)
		if !alike(one, other) || one.small.wrong != api.OK || one.splits != 0 || len(one.small.d.Label) != 1 {
			t.Errorf("of nil lists is told %s, of empty ones %s", one, other)
		}
	}
	holdNone(t, api.Dfa{})
	holdNone(t, api.Dfa{Next: [][]int{}, Label: []int{}, Names: []string{}})
}

// Many calls at once answer as one after another, and so do later ones.
func TestP2501AtOnce(t *testing.T) {
	t.Parallel()
	next := sample.Chances()
	l := sample.Many(400, func() api.Dfa { return anyMachine(40, next) })
	// The same machine, several times, with more states than most have.
	for range 5 {
		l = append(l, shifted(8), sample.Bitwise(9), leading(700, 3, 5))
	}
	for _, place := range sample.Others(l, asked, alike) {
		t.Errorf("at once, or later, another answer is told of %s", brief(l[place]))
	}
}

// A machine that may not be, for whatever fault.
func TestP2501MayNotBe(t *testing.T) {
	t.Parallel()
	met := map[string]int{}
	sample.EachWrongDfa(func(fault string, d api.Dfa) {
		met[fault]++
		holdNone(t, d)
	})
	if len(met) < 10 {
		t.Errorf("so often each fault is met: %v", met)
	}
	// A fault in a state that no word leads to, and that would be alike to another one.
	d := rows("x y", ints(0, 1, 1, 0), ints(1, 0), ints(1, 1), ints(2, 2), ints(1, 3))
	holdAlike(t, d, ints(0, 1, 1, 0))
	of := d
	of.Of[9] = 2
	for _, x := range []api.Dfa{of, withLabel(d, 3, 3), withLabel(d, 3, -1), withNext(d, 3, 1, 4), withNext(d, 3, 1, -1), withRow(d, 3, ints(1)), withRow(d, 3, ints(1, 3, 3)), withRow(d, 2, nil), withName(d, 1, "x"), withName(d, 1, "9")} {
		holdNone(t, x)
	}
}

// Machines of whatever there is.
func TestP2501WhateverIsHandedIn(t *testing.T) {
	t.Parallel()
	next := sample.Chances()
	numbers := []int{least, least + 1, -1 << 32, -65536, -2, -1, 0, 1, 2, 3, 64, 65, 255, 256, 257, 65535, 65536, 65537, 1 << 32, greatest - 1, greatest}
	some := func() int {
		if next(2) == 0 {
			return next(3)
		}
		return sample.OneOf(numbers, next)
	}
	list := func() []int { return sample.Many(next(5), some) }
	m := met{splits: map[int]int{}}
	for range 10000 {
		d := sample.AnyDfa(1+next(4), next)
		switch next(8) {
		case 0:
			d.Width = some()
		case 1:
			d.Label = list()
		case 2:
			d.Next = sample.Many(next(4), list)
		case 3:
			d.Names = sample.Many(next(4), func() string {
				return sample.OneOf([]string{"a", "b", "C", "d_9", "", "9", "a b", "\x00"}, next)
			})
		case 4:
			d.Of[next(256)] = uint8(some())
		}
		if holdModelled(t, d, &m); t.Failed() {
			return
		}
	}
	if min(m.wrong, 3*m.some, m.all, 2*m.same) < 500 {
		t.Errorf("so often there was: %+v", m)
	}
}

package moore

import (
	"fmt"
	"slices"
	"testing"

	"doublet/api"
	"doublet/sample"
	"doublet/texts"
)

// question: what is asked: a machine, and a number.
type question struct {
	d api.Dfa
	k int
}

// answer: all that is told of it.
type answer struct {
	after, blocks []int
	rounds        int
}

// asked: all calls, one after another.
func asked(q question) answer { return answer{After(q.d, q.k), Blocks(q.d), Rounds(q.d)} }

// alike: is all that was told the same?
func alike(x, y answer) bool {
	return slices.Equal(x.after, y.after) && slices.Equal(x.blocks, y.blocks) && x.rounds == y.rounds
}

func (x answer) String() string {
	return fmt.Sprintf("%s; %s; %d", many(x.after), many(x.blocks), x.rounds)
}

func (q question) String() string { return fmt.Sprintf("%d of %s", q.k, brief(q.d)) }

// anyQuestion: a random one; some machines may not be, and of some blocks are as labels are, or each state alone.
func anyQuestion(states int, next func(most int) int) question {
	d, _ := sample.AnyUnfolded(1+next(states), next)
	switch next(6) {
	case 0:
		d = sample.SpoiltDfa(d, next)
	case 1:
		d = row(2 + next(states))
	case 2:
		d = ring("x y", sample.Many(1+next(states), func() int { return next(3) })...)
	}
	return question{d, []int{least, -1, 0, 1, 2, next(2 * states), greatest}[next(7)]}
}

// inRoom: the same question, all of whose lists have room behind them, with marks in it that are states of most machines.
func inRoom(q question) question { return question{sample.RoomyDfa(q.d), q.k} }

// given: all that was handed in, with the room behind it, as a text.
func given(q question) string { return texts.Dfa(sample.StretchedDfa(q.d)) }

// scribble writes over all lists of an answer, and over the room behind them.
func scribble(x answer) {
	sample.ScribbleList(x.after, -7)
	sample.ScribbleList(x.blocks, -7)
}

// What is handed in stays as it is, and so does the room behind it, which says nothing; what is told shares nothing with it, nor with another answer.
func TestP2401Memory(t *testing.T) {
	t.Parallel()
	next := sample.Chances()
	wrong, labels, alone := 0, 0, 0
	for range 3000 {
		q := anyQuestion(10, next)
		r := inRoom(q)
		kept := given(r)
		want := asked(q)
		first, second := asked(r), asked(r)
		hold := func(when string, x answer) {
			t.Helper()
			if !alike(x, want) {
				t.Errorf("%s is told of %s\n%s, want\n%s", when, q, x, want)
			}
		}
		holdGiven := func(when string) {
			t.Helper()
			if given(r) != kept {
				t.Errorf("%s what was handed in became\n%s, and was\n%s", when, front(given(r)), front(kept))
			}
		}
		hold("with room behind", first)
		holdGiven("by a call")
		scribble(first)
		hold("once an answer was written over, by an earlier call", second)
		holdGiven("once an answer was written over,")
		hold("once an answer was written over, later", asked(r))
		sample.ScribbleDfa(r.d)
		hold("once what was handed in was written over, by an earlier call", second)
		hold("later", asked(q))
		if want.rounds < 0 {
			wrong++
		} else if slices.Equal(want.blocks, q.d.Label) {
			labels++
		} else if slices.Equal(want.blocks, upTo(0, len(q.d.Label))) {
			alone++
		}
		if t.Failed() {
			return
		}
	}
	if min(wrong, labels, alone) < 200 {
		t.Errorf("so often machines might not be, blocks were the labels, and were each alone: %d, %d, %d", wrong, labels, alone)
	}
}

// No two lists of answers share memory, nor the room behind them, nor do they with what was handed in: each grows alone.
func TestP2401ListsGrowAlone(t *testing.T) {
	t.Parallel()
	next := sample.Chances()
	for range 1000 {
		q := inRoom(anyQuestion(10, next))
		x, again, want := asked(q), asked(q), asked(q)
		l := append([][]int{q.d.Label, x.after, x.blocks, again.after, again.blocks}, sample.StretchedList(q.d.Next)...)
		if sample.SharedLists(l...) {
			t.Fatalf("a place lies in two lists, of %s", q)
		}
		_, _ = append(x.after, 77, 78), append(x.blocks, 79)
		if !alike(x, want) || !alike(asked(q), want) {
			t.Fatalf("once lists grew there is of %s\n%s, want\n%s", q, x, want)
		}
	}
}

// Rows that are one memory, and labels that are a row.
func TestP2401SharedRows(t *testing.T) {
	all := ints(1, 2, 0)
	d := rows("x y", all, all, all, all)
	holdTold(t, d, ints(0, 1, 2))
	// Labels that are the same blocks by other numbers, in one memory with all rows.
	all = ints(2, 2, 0, 2)
	d = rows("x y", all, all, all, all, all)
	holdTold(t, d, ints(0, 0, 1, 0))
	After(d, 0)[0] = 77
	Blocks(d)[1] = 77
	if !slices.Equal(all, ints(2, 2, 0, 2)) {
		t.Errorf("what was handed in is %v", all)
	}
	// Labels that are normal blocks, and all that there is to be told.
	d = ring("x y z", 0, 1, 2, 3)
	After(d, 5)[0] = 77
	Blocks(d)[0] = 77
	holdTold(t, d, ints(0, 1, 2, 3))
	holdBlocks(t, d.Label, ints(0, 1, 2, 3), "the labels")
}

// Nil and empty lists mean the same.
func TestP2401Empty(t *testing.T) {
	next := sample.Chances()
	for range 300 {
		q := anyQuestion(6, next)
		q.d.Names, q.d.Label = nil, make([]int, len(q.d.Label))
		r := q
		r.d.Names = []string{}
		if one, other := asked(q), asked(r); !alike(one, other) {
			t.Errorf("of nil lists is told %s, of empty ones %s", one, other)
		}
	}
	holdNone(t, api.Dfa{})
	holdNone(t, api.Dfa{Next: [][]int{}, Label: []int{}, Names: []string{}})
}

// Many calls at once answer as one after another, and so do later ones.
func TestP2401AtOnce(t *testing.T) {
	t.Parallel()
	next := sample.Chances()
	l := sample.Many(400, func() question { return anyQuestion(40, next) })
	for _, place := range sample.Others(l, asked, alike) {
		t.Errorf("at once, or later, another answer is told of %s", l[place])
	}
	// The same machine, by all numbers.
	d := shifted(8)
	l = nil
	for k := -2; k < 12; k++ {
		l = append(l, question{d, k})
	}
	for _, place := range sample.Others(l, asked, alike) {
		t.Errorf("at once, or later, another answer is told of %s", l[place])
	}
}

// A machine that may not be, for whatever fault.
func TestP2401MayNotBe(t *testing.T) {
	t.Parallel()
	met := map[string]int{}
	sample.EachWrongDfa(func(fault string, d api.Dfa) {
		met[fault]++
		holdNone(t, d)
	})
	if len(met) < 10 {
		t.Errorf("so often each fault is met: %v", met)
	}
	// A fault in a state that no word leads to, and that would be alike to another one.
	d := rows("x y", ints(0, 1, 1, 0), ints(1, 0), ints(1, 1), ints(2, 2), ints(1, 3))
	holdTold(t, d, ints(0, 1, 1, 0))
	of := d
	of.Of[9] = 2
	for _, x := range []api.Dfa{of, withLabel(d, 3, 3), withLabel(d, 3, -1), withNext(d, 3, 1, 4), withNext(d, 3, 1, -1), withRow(d, 3, ints(1)), withRow(d, 3, ints(1, 3, 3)), withRow(d, 2, nil), withName(d, 1, "x"), withName(d, 1, "9")} {
		holdNone(t, x)
	}
}

// Machines and numbers of whatever there is.
func TestP2401WhateverIsHandedIn(t *testing.T) {
	t.Parallel()
	next := sample.Chances()
	numbers := []int{least, least + 1, -1 << 32, -65536, -2, -1, 0, 1, 2, 3, 64, 65, 255, 256, 257, 65535, 65536, 65537, 1 << 32, greatest - 1, greatest}
	some := func() int {
		if next(2) == 0 {
			return next(3)
		}
		return sample.OneOf(numbers, next)
	}
	list := func() []int { return sample.Many(next(5), some) }
	m := met{rounds: map[int]int{}}
	for range 10000 {
		d := sample.AnyDfa(1+next(4), next)
		switch next(8) {
		case 0:
			d.Width = some()
		case 1:
			d.Label = list()
		case 2:
			d.Next = sample.Many(next(4), list)
		case 3:
			d.Names = sample.Many(next(4), func() string {
				return sample.OneOf([]string{"a", "b", "C", "d_9", "", "9", "a b", "\x00"}, next)
			})
		case 4:
			d.Of[next(256)] = uint8(some())
		}
		if holdModelled(t, d, &m); t.Failed() {
			return
		}
	}
	if min(m.wrong, 3*m.some, m.all, m.none) < 500 {
		t.Errorf("so often there was: %+v", m)
	}
}

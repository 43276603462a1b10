package quotient

import (
	"fmt"
	"slices"
	"testing"

	"doublet/api"
	"doublet/dfa"
	"doublet/sample"
	"doublet/texts"
)

// question: what is asked: a machine and blocks of it, and other ones.
type question struct {
	d    api.Dfa
	a, b []int
}

// answer: all that is told of it.
type answer struct {
	norm, join    []int
	finer, stable bool
	of, merge     answered
	classes       classes
	width         int
}

// asked: all calls, one after another.
func asked(q question) answer {
	x := answer{norm: Norm(q.a), join: Join(q.a, q.b), finer: Finer(q.a, q.b), stable: Stable(q.d, q.a), of: told(Of(q.d, q.a)), merge: told(Merge(q.d))}
	x.classes, x.width = Classes(q.d)
	return x
}

// alike: is all that was told the same?
func alike(x, y answer) bool {
	same := func(x, y answered) bool { return x.wrong == y.wrong && dfa.Same(x.d, y.d) }
	return slices.Equal(x.norm, y.norm) && slices.Equal(x.join, y.join) && x.finer == y.finer && x.stable == y.stable && same(x.of, y.of) && same(x.merge, y.merge) && x.classes == y.classes && x.width == y.width
}

func (x answer) String() string {
	return fmt.Sprintf("%s; %s; %t %t\n%d %s\n%d %s\n%d %s", many(x.norm), many(x.join), x.finer, x.stable, x.of.wrong, brief(x.of.d), x.merge.wrong, brief(x.merge.d), x.width, texts.Classes(x.classes))
}

func (q question) String() string {
	return fmt.Sprintf("%s, %s, %s", brief(q.d), many(q.a), many(q.b))
}

// anyQuestion: a random one, that has answers or errors; some machines, and lists, need nothing to be made of them.
func anyQuestion(states int, next func(most int) int) question {
	d, l := anyMachine(1+next(states), next)
	q := question{d, l, anyBlocks(l, next)}
	switch next(6) {
	case 0:
		q.a = anyBlocks(l, next)
	case 1:
		q.d = sample.SpoiltDfa(d, next)
	case 2:
		q.a = upTo(0, len(l))
	case 3:
		q.d, _ = modelMerge(d)
		q.a, q.b = modelNorm(l), slices.Clone(q.a)
	}
	return q
}

// inRoom: the same question, all of whose lists have room behind them, with marks in it that are states of most machines.
func inRoom(q question) question {
	return question{sample.RoomyDfa(q.d), sample.RoomyList(q.a, 1, 0, 0, -9, 1), sample.RoomyList(q.b, 0, 1, 1, 2)}
}

// given: all that was handed in, with the room behind it, as a text.
func given(q question) string {
	return fmt.Sprint(texts.Dfa(sample.StretchedDfa(q.d)), sample.StretchedList(q.a), sample.StretchedList(q.b))
}

// scribble writes over all lists of an answer, and over the room behind them.
func scribble(x answer) {
	sample.ScribbleList(x.norm, -7)
	sample.ScribbleList(x.join, -7)
	sample.ScribbleDfa(x.of.d)
	sample.ScribbleDfa(x.merge.d)
}

// What is handed in stays as it is, and so does the room behind it, which says nothing; what is told shares nothing with it, nor with another answer.
func TestP2301Memory(t *testing.T) {
	t.Parallel()
	next := sample.Chances()
	errors, same := map[api.Errno]int{}, 0
	for range 3000 {
		q := anyQuestion(10, next)
		r := inRoom(q)
		kept := given(r)
		want := asked(q)
		first, second := asked(r), asked(r)
		hold := func(when string, x answer) {
			t.Helper()
			if !alike(x, want) {
				t.Errorf("%s is told of %s\n%s, want\n%s", when, q, x, want)
			}
		}
		holdGiven := func(when string) {
			t.Helper()
			if given(r) != kept {
				t.Errorf("%s what was handed in became\n%s, and was\n%s", when, front(given(r)), front(kept))
			}
		}
		hold("with room behind", first)
		holdGiven("by a call")
		scribble(first)
		hold("once an answer was written over, by an earlier call", second)
		holdGiven("once an answer was written over,")
		hold("once an answer was written over, later", asked(r))
		sample.ScribbleDfa(r.d)
		sample.ScribbleList(r.a, 78)
		sample.ScribbleList(r.b, 79)
		hold("once what was handed in was written over, by an earlier call", second)
		hold("later", asked(q))
		if errors[want.of.wrong]++; want.of.wrong == api.OK && dfa.Same(want.of.d, q.d) && dfa.Same(want.merge.d, q.d) && slices.Equal(want.norm, q.a) {
			same++
		}
		if t.Failed() {
			return
		}
	}
	if min(errors[0], errors[1], errors[6]) < 200 || same < 200 {
		t.Errorf("so often there were errors: %v, and so often nothing had to be made: %d", errors, same)
	}
}

// No two lists of answers share memory, nor the room behind them, nor do they with what was handed in: each grows alone.
func TestP2301ListsGrowAlone(t *testing.T) {
	t.Parallel()
	next := sample.Chances()
	for range 800 {
		q := inRoom(anyQuestion(10, next))
		x, again, want := asked(q), asked(q), asked(q)
		machines := []api.Dfa{q.d}
		numbers, names := [][]int{q.a, q.b}, [][]string{q.d.Names}
		for _, some := range []answer{x, again} {
			numbers = append(numbers, some.norm, some.join)
			for _, d := range []api.Dfa{some.of.d, some.merge.d} {
				machines, names = append(machines, d), append(names, d.Names)
			}
		}
		for _, d := range machines {
			numbers = append(append(numbers, d.Label), sample.StretchedList(d.Next)...)
		}
		if sample.SharedDfas(machines...) || sample.SharedLists(numbers...) || sample.SharedLists(names...) {
			t.Fatalf("a place lies in two lists, of %s", q)
		}
		for _, d := range []api.Dfa{x.of.d, x.merge.d} {
			for _, row := range d.Next {
				_ = append(row, 77, 78)
			}
			_ = append(append(d.Next, ints(79)), ints(80))
			_ = append(d.Label, 77, 78)
			_ = append(d.Names, "other", "others")
		}
		_, _ = append(x.norm, 77), append(x.join, 77)
		if !alike(x, want) {
			t.Fatalf("once lists grew there is of %s\n%s, want\n%s", q, x, want)
		}
	}
}

// Rows that are one memory, blocks that are the machine's own labels or a row, lists that are one memory or parts of one.
func TestP2301SharedLists(t *testing.T) {
	row := ints(0, 2, 1)
	d := rows("b a", ints(1, 2, 2), row, row, row)
	of, merged := told(Of(d, d.Label)), told(Merge(d))
	holdDfa(t, of, rows("b a", ints(1, 2), ints(0, 1, 1), ints(0, 1, 1)), "Of, by its own labels")
	holdDfa(t, merged, d, "Merge of rows that are one")
	if sample.SharedDfas(of.d, merged.d) || sample.SharedDfas(of.d, api.Dfa{Label: row}) || sample.SharedDfas(merged.d, api.Dfa{Label: row}) {
		t.Error("two rows of an answer share memory")
	}
	x := rows("x y", row, row, row, row)
	same := told(Of(x, row))
	holdDfa(t, same, x, "Of, by its own row, which is its labels, too,")
	sample.ScribbleDfa(same.d)
	sample.ScribbleDfa(of.d)
	sample.ScribbleDfa(merged.d)
	if !slices.Equal(row, ints(0, 2, 1)) || !slices.Equal(d.Label, ints(1, 2, 2)) || !slices.Equal(d.Names, split("b a")) {
		t.Errorf("what was handed in is %v, %v, %q", row, d.Label, d.Names)
	}
	l := ints(0, 0, 1, 1, 2, 2, 0, 1)
	holdBlocks(t, Join(l[:6], l[2:]), ints(0, 0, 1, 1, 2, 3), "Join of parts of one list")
	holdBlocks(t, Join(l, l), l, "Join of one list")
	Join(l, l)[0] = 77
	Norm(l)[0] = 77
	Norm(l[:2])[1] = 77
	if !slices.Equal(l, ints(0, 0, 1, 1, 2, 2, 0, 1)) || !Finer(l, l) {
		t.Errorf("the list became %v", l)
	}
	// Classes are values.
	classes, _ := Classes(d)
	classes[0] = 9
	holdClasses(t, d, d.Of, 3)
}

// Nil and empty lists mean the same.
func TestP2301Empty(t *testing.T) {
	next := sample.Chances()
	for range 300 {
		d, l := anyMachine(5, next)
		d.Names, d.Label = nil, make([]int, len(d.Label))
		x := d
		x.Names = []string{}
		if one, other := asked(question{d: d, a: l}), asked(question{d: x, a: l, b: ints()}); !alike(one, other) {
			t.Errorf("of nil lists is told %s, of empty ones %s", one, other)
		}
		if one, other := asked(question{d: d, b: l}), asked(question{d: x, a: ints(), b: l}); !alike(one, other) || one.of.wrong != api.ErrArg {
			t.Errorf("of nil blocks is told %s, of empty ones %s", one, other)
		}
	}
	for _, d := range []api.Dfa{{}, {Next: [][]int{}, Label: []int{}, Names: []string{}}} {
		for _, l := range [][]int{nil, {}} {
			holdOfError(t, d, l, api.ErrKind)
			holdNoClasses(t, d)
		}
	}
}

// Many calls at once answer as one after another, and so do later ones.
func TestP2301AtOnce(t *testing.T) {
	t.Parallel()
	next := sample.Chances()
	l := sample.Many(400, func() question { return anyQuestion(40, next) })
	for _, place := range sample.Others(l, asked, alike) {
		t.Errorf("at once, or later, another answer is told of %s", l[place])
	}
}

// Machines and lists of whatever there is.
func TestP2301WhateverIsHandedIn(t *testing.T) {
	t.Parallel()
	next := sample.Chances()
	numbers := []int{least, least + 1, -1 << 32, -65536, -2, -1, 0, 1, 2, 3, 64, 65, 255, 256, 257, 65535, 65536, 65537, 1 << 32, greatest - 1, greatest}
	some := func() int {
		if next(2) == 0 {
			return next(3)
		}
		return sample.OneOf(numbers, next)
	}
	list := func() []int { return sample.Many(next(5), some) }
	m := met{wrong: map[api.Errno]int{}}
	for range 10000 {
		d := sample.AnyDfa(1+next(4), next)
		switch next(8) {
		case 0:
			d.Width = some()
		case 1:
			d.Label = list()
		case 2:
			d.Next = sample.Many(next(4), list)
		case 3:
			d.Names = sample.Many(next(4), func() string {
				return sample.OneOf([]string{"a", "b", "C", "d_9", "", "9", "a b", "\x00"}, next)
			})
		case 4:
			d.Of[next(256)] = uint8(some())
		}
		if holdModelled(t, d, [][]int{list(), list(), make([]int, len(d.Label))}, &m); t.Failed() {
			return
		}
	}
	if min(m.wrong[0], m.wrong[1], m.wrong[6]) < 1000 {
		t.Errorf("so often there was: %v", m)
	}
}

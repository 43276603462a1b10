package label

import (
	"fmt"
	"math"
	"slices"
	"testing"

	"doublet/api"
	"doublet/dfa"
	"doublet/sample"
	"doublet/texts"
)

// question: what is asked: a machine, lists for Union, names for Names, and a name for Only.
type question struct {
	d     api.Dfa
	lists [][]string
	names []string
	name  string
}

// answer: all that is told of it.
type answer struct {
	used, union             []string
	names, norm, only, plus answered
}

// asked: all calls, one after another.
func asked(q question) answer {
	return answer{Used(q.d), Union(q.lists...), told(Names(q.d, q.names)), told(Norm(q.d)), told(Only(q.d, q.name)), told(Plus(q.d))}
}

// machines: those of an answer.
func (x answer) machines() []answered { return []answered{x.names, x.norm, x.only, x.plus} }

// alike: is all that was told the same?
func alike(x, y answer) bool {
	return slices.Equal(x.used, y.used) && slices.Equal(x.union, y.union) && slices.EqualFunc(x.machines(), y.machines(), func(a, b answered) bool {
		return a.wrong == b.wrong && dfa.Same(a.d, b.d)
	})
}

func (x answer) String() string {
	text := fmt.Sprintf("%s; %s", quoted(x.used), quoted(x.union))
	for _, m := range x.machines() {
		text += fmt.Sprintf("\n%d %s", m.wrong, brief(m.d))
	}
	return text
}

func (q question) String() string {
	return fmt.Sprintf("%s, %q, %s, %q", brief(q.d), q.lists, quoted(q.names), front(q.name))
}

// anyQuestion: a random one, that has answers or errors.
func anyQuestion(states int, next func(most int) int) question {
	q := question{d: sample.AnyDfa(1+next(states), next)}
	if next(6) == 0 {
		q.d = sample.SpoiltDfa(q.d, next)
	}
	q.names, q.name = anyNames(q.d, next), anyName(q.d, next)
	q.lists = sample.Many(next(5), func() []string {
		return sample.Many(next(5), func() string { return sample.AnyWord(next(3), "ab\x00\xff", next) })
	})
	return q
}

// roomy: a list with room behind it, and marks in it.
func roomy(l []string) []string { return sample.RoomyList(l, "mark", "9", "mark") }

// inRoom: the same question, all of whose lists have room behind them, with marks in it.
func inRoom(q question) question {
	var lists [][]string
	for _, l := range q.lists {
		lists = append(lists, roomy(l))
	}
	lists = sample.RoomyList(lists, []string{"another"}, nil)
	return question{sample.RoomyDfa(q.d), lists, roomy(q.names), q.name}
}

// given: all that was handed in, with the room behind it, as a text.
func given(q question) string {
	text := fmt.Sprint(texts.Dfa(sample.StretchedDfa(q.d)), sample.StretchedList(q.names))
	for _, l := range sample.StretchedList(q.lists) {
		text += fmt.Sprintf("; %q", sample.StretchedList(l))
	}
	return text
}

// scribble writes over texts, and the room behind them.
func scribble(l []string) { sample.ScribbleList(l, "scribbled") }

// What is handed in stays as it is, and so does the room behind it, which says nothing; what is told shares nothing with it, nor with another answer.
func TestP2201Memory(t *testing.T) {
	t.Parallel()
	next := sample.Chances()
	errors := map[api.Errno]int{}
	for range 3000 {
		q := anyQuestion(10, next)
		r := inRoom(q)
		kept := given(r)
		want := asked(q)
		first, second := asked(r), asked(r)
		hold := func(when string, x answer) {
			t.Helper()
			if !alike(x, want) {
				t.Errorf("%s is told of %s\n%s, want\n%s", when, q, x, want)
			}
		}
		hold("with room behind", first)
		if given(r) != kept {
			t.Errorf("what was handed in became\n%s, and was\n%s", front(given(r)), front(kept))
		}
		scribble(first.used)
		scribble(first.union)
		for _, m := range first.machines() {
			errors[m.wrong]++
			sample.ScribbleDfa(m.d)
		}
		hold("once an answer was written over, by an earlier call", second)
		if given(r) != kept {
			t.Errorf("once an answer was written over, what was handed in became\n%s, and was\n%s", front(given(r)), front(kept))
		}
		hold("once an answer was written over, later", asked(r))
		sample.ScribbleDfa(r.d)
		scribble(r.names)
		for i, l := range sample.StretchedList(r.lists) {
			scribble(l)
			sample.StretchedList(r.lists)[i] = []string{"scribbled"}
		}
		hold("once what was handed in was written over, by an earlier call", second)
		hold("later", asked(q))
		if t.Failed() {
			return
		}
	}
	if min(errors[0], errors[1], errors[5], errors[6]) < 50 {
		t.Errorf("so often there were errors: %v", errors)
	}
}

// No two lists of answers share memory, nor the room behind them, nor do they with what was handed in: each grows alone.
func TestP2201ListsGrowAlone(t *testing.T) {
	t.Parallel()
	next := sample.Chances()
	for range 500 {
		q := inRoom(anyQuestion(10, next))
		x, again, want := asked(q), asked(q), asked(q)
		machines := []api.Dfa{q.d}
		lists := append(slices.Clone(sample.StretchedList(q.lists)), q.names, q.d.Names)
		for _, some := range []answer{x, again} {
			lists = append(lists, some.used, some.union)
			for _, m := range some.machines() {
				machines, lists = append(machines, m.d), append(lists, m.d.Names)
			}
		}
		if sample.SharedDfas(machines...) || sample.SharedLists(lists...) {
			t.Fatalf("a place lies in two lists, of %s", q)
		}
		for _, m := range x.machines() {
			for _, row := range m.d.Next {
				_ = append(row, 77, 78)
			}
			_ = append(append(m.d.Next, ints(79)), ints(80))
			_ = append(m.d.Label, 77, 78)
			_ = append(m.d.Names, "other", "others")
		}
		_, _ = append(x.used, "other"), append(x.union, "other")
		if !alike(x, want) {
			t.Fatalf("once lists grew there is of %s\n%s, want\n%s", q, x, want)
		}
	}
}

// Rows that are one memory, names that are the machine's own, lists that are one memory, or parts of one.
func TestP2201SharedLists(t *testing.T) {
	row := ints(0, 2, 1)
	d := rows("b a", ints(1, 2, 0), row, row, row)
	plus, wrong := Plus(d)
	want := rows("b a", ints(0, 1, 2, 0), ints(1, 3, 2), ints(1, 3, 2), ints(1, 3, 2), ints(1, 3, 2))
	holdDfa(t, told(plus, wrong), want, "Plus of rows that are one")
	if !slices.Equal(row, ints(0, 2, 1)) || sample.SharedDfas(plus) {
		t.Errorf("the row became %v", row)
	}
	norm, wrong := Norm(d)
	holdDfa(t, told(norm, wrong), rows("a b", ints(2, 1, 0), row, row, row), "Norm of rows that are one")
	if sample.SharedDfas(norm) {
		t.Error("two rows of Norm share memory")
	}
	// Its own names, and labels that are a row, too.
	d.Label = d.Next[2]
	kept := slices.Clone(d.Names)
	names, wrong := Names(d, d.Names)
	holdDfa(t, told(names, wrong), rows("b a", ints(0, 2, 1), row, row, row), "Names with the machine's own")
	names.Names[0], names.Label[0] = "other", 2
	names.Next[0][0] = 77
	if !slices.Equal(d.Names, kept) || !slices.Equal(row, ints(0, 2, 1)) || sample.SharedDfas(names) {
		t.Errorf("the names became %q, and the row %v", d.Names, row)
	}
	l := split("d b c a d b")
	holdUnion(t, split("a b c d"), l, l[2:], l[:3], l)
	if !slices.Equal(l, split("d b c a d b")) {
		t.Errorf("the list became %q", l)
	}
	// One that rises, alone, is told as a list of its own.
	l = split("a b c")
	Union(l)[0] = "other"
	Union(l, nil)[0] = "other"
	if !slices.Equal(l, split("a b c")) {
		t.Errorf("the list became %q", l)
	}
}

// Nil and empty lists mean the same.
func TestP2201Empty(t *testing.T) {
	next := sample.Chances()
	for range 300 {
		d := quietly(sample.AnyDfa(1+next(5), next))
		d.Names = nil
		x := d
		x.Names = []string{}
		one, other := asked(question{d: d, name: "a"}), asked(question{d: x, lists: [][]string{nil, {}}, names: []string{}, name: "a"})
		if !alike(one, other) {
			t.Errorf("of nil lists is told %s, of empty ones %s", one, other)
		}
	}
	for _, d := range []api.Dfa{{}, {Next: [][]int{}, Label: []int{}, Names: []string{}}} {
		for _, m := range asked(question{d: d, name: "a"}).machines() {
			holdError(t, m, api.ErrKind, "a call of nothing")
		}
	}
}

// Of a machine that may not be each call tells ErrKind, for whatever fault, and whatever else is wrong.
func TestP2201MayNotBe(t *testing.T) {
	t.Parallel()
	met := map[string]int{}
	sample.EachWrongDfa(func(fault string, d api.Dfa) {
		met[fault]++
		holdError(t, told(Norm(d)), api.ErrKind, "with the fault %s Norm", fault)
		holdError(t, told(Plus(d)), api.ErrKind, "with the fault %s Plus", fault)
		for _, l := range [][]string{d.Names, nil, {"a", "a"}, {""}, {"9", "x"}, {"other"}} {
			holdNamesError(t, d, l, api.ErrKind)
		}
		for _, name := range append(split("x other 9"), "", "a b") {
			holdOnlyError(t, d, name, api.ErrKind)
		}
	})
	if len(met) < 10 {
		t.Errorf("so often each fault is met: %v", met)
	}
	// With a label at 0, and as many states as there may be, or more.
	d := quiet(most, 1)
	d.Names, d.Label[0] = split("a a"), 1
	holdError(t, told(Plus(d)), api.ErrKind, "Plus of names twice")
	holdNamesError(t, d, called(65), api.ErrKind)
	holdOnlyError(t, d, "", api.ErrKind)
	// Faults that no label has, and to which no word comes.
	d = even()
	for _, x := range []api.Dfa{withName(d, 0, ""), withName(d, 2, "odd"), withLabel(d, 3, 4), withLabel(d, 3, -1), withNext(d, 3, 2, 4), withNext(d, 3, 2, -1), withRow(d, 3, nil)} {
		for _, m := range asked(question{d: x, names: split("odd even b"), name: "b"}).machines() {
			holdError(t, m, api.ErrKind, "a call of %s", brief(x))
		}
		for _, m := range asked(question{d: x, names: split("9"), name: ""}).machines() {
			holdError(t, m, api.ErrKind, "a call of %s, with no names,", brief(x))
		}
	}
}

// Many calls at once answer as one after another, and so do later ones.
func TestP2201AtOnce(t *testing.T) {
	t.Parallel()
	next := sample.Chances()
	l := sample.Many(400, func() question { return anyQuestion(40, next) })
	for _, place := range sample.Others(l, asked, alike) {
		t.Errorf("at once, or later, another answer is told of %s", l[place])
	}
}

// Machines, names and lists of whatever there is.
func TestP2201WhateverIsHandedIn(t *testing.T) {
	t.Parallel()
	next := sample.Chances()
	numbers := []int{math.MinInt, math.MinInt + 1, -1 << 32, -65536, -2, -1, 0, 1, 2, 3, 64, 65, 255, 256, 65535, 65536, 65537, 1 << 32, math.MaxInt - 1, math.MaxInt}
	some := func() int {
		if next(2) == 0 {
			return next(3)
		}
		return sample.OneOf(numbers, next)
	}
	text := func() string { return sample.OneOf([]string{"a", "b", "C", "d_9", "", "9", "a b", "\x00"}, next) }
	met := map[api.Errno]int{}
	for range 10000 {
		d := sample.AnyDfa(1+next(3), next)
		switch next(6) {
		case 0:
			d.Width = some()
		case 1:
			d.Label = sample.Many(next(4), some)
		case 2:
			d.Next = sample.Many(next(4), func() []int { return sample.Many(next(4), some) })
		case 3:
			d.Names = sample.Many(next(4), text)
		}
		lists := sample.Many(3, func() []string { return sample.Many(next(4), text) })
		for wrong, times := range holdModelled(t, d, lists, []string{text(), text()}) {
			met[wrong] += times
		}
		holdUnion(t, modelUnion(lists...), lists...)
		if t.Failed() {
			return
		}
	}
	if min(met[0], met[1], met[5], met[6]) < 1000 {
		t.Errorf("so often there were errors: %v", met)
	}
}

package dfa

import (
	"bytes"
	"slices"
	"testing"

	"doublet/api"
	"doublet/sample"
)

// scribble writes over a list, and the room behind it.
func scribble(l []int) { sample.ScribbleList(l, 1) }

// answer: all that is told of a machine, and a word, a state, a byte and a list.
type answer struct {
	right, same          bool
	to, run, tell        int
	name                 string
	reach, live          []int
	kept, trimmed        api.Dfa
	keepError, trimError api.Errno
}

// question: what is asked.
type question struct {
	d, other api.Dfa
	s        int
	b        byte
	w        []byte
	l        []int
}

// asked: all calls, one after another.
func asked(q question) answer {
	x := answer{right: Right(q.d), same: Same(q.d, q.other), to: To(q.d, q.s, q.b), run: Run(q.d, q.w), tell: Tell(q.d, q.w), name: Name(q.d, q.w), reach: Reach(q.d), live: Live(q.d)}
	x.kept, x.keepError = Keep(q.d, q.l)
	x.trimmed, x.trimError = Trim(q.d)
	return x
}

// alike: is all that was told the same?
func alike(x, y answer) bool {
	return x.right == y.right && x.same == y.same && x.to == y.to && x.run == y.run && x.tell == y.tell && x.name == y.name &&
		slices.Equal(x.reach, y.reach) && slices.Equal(x.live, y.live) &&
		same(x.kept, y.kept) && same(x.trimmed, y.trimmed) && x.keepError == y.keepError && x.trimError == y.trimError
}

// anyQuestion: on a random machine, that may be or not, and a list that Keep takes or not.
func anyQuestion(states int, next func(most int) int) question {
	d := sample.AnyDfa(1+next(states), next)
	if next(5) == 0 {
		d = spoilt(d, next)
	}
	lists := anyLists(d, next)
	return question{d: d, other: copied(d), s: anyNumber(d, next), b: byte(next(256)), w: []byte(sample.AnyWord(next(9), sample.Edgy, next)), l: lists[next(len(lists))]}
}

// inRoom: the same question, all of whose lists have room behind them, with marks in it; behind the last one these are states of most machines.
func inRoom(q question) question {
	return question{sample.RoomyDfa(q.d), sample.RoomyDfa(q.other), q.s, q.b, sample.RoomyText(string(q.w)), sample.RoomyList(q.l, 1, 0, 2, -9, 1)}
}

// What is handed in stays as it is, and so does the room behind it; the room says nothing.
func TestP2001ArgumentsStay(t *testing.T) {
	t.Parallel()
	next := sample.Chances()
	for range 3000 {
		q := anyQuestion(12, next)
		given := inRoom(q)
		d, other := exact(sample.StretchedDfa(given.d)), exact(sample.StretchedDfa(given.other))
		w, l := slices.Clone(given.w[:cap(given.w)]), slices.Clone(given.l[:cap(given.l)])
		want := asked(q)
		if got := asked(given); !alike(got, want) {
			t.Errorf("with room behind of %s, %v and %q is told\n%v, and without\n%v", brief(q.d), q.l, q.w, got, want)
		}
		if exact(sample.StretchedDfa(given.d)) != d || exact(sample.StretchedDfa(given.other)) != other {
			t.Errorf("the machine that was handed in became\n%s, and was\n%s", front(exact(sample.StretchedDfa(given.d))), front(d))
		}
		if !bytes.Equal(given.w[:cap(given.w)], w) || !slices.Equal(given.l[:cap(given.l)], l) {
			t.Errorf("what was handed in became %q and %v, and was %q and %v", given.w[:cap(given.w)], given.l[:cap(given.l)], w, l)
		}
		if t.Failed() {
			return
		}
	}
}

// scribbled writes over all lists of an answer.
func scribbled(x answer) {
	scribble(x.reach)
	scribble(x.live)
	sample.ScribbleDfa(x.kept)
	sample.ScribbleDfa(x.trimmed)
}

// Answers are new memory: to write over them, and the room behind them, changes neither what was handed in nor another answer; to write over what was handed in changes no answer.
func TestP2001NewMemory(t *testing.T) {
	t.Parallel()
	next := sample.Chances()
	for range 3000 {
		q := anyQuestion(12, next)
		want := asked(q)
		given := inRoom(q)
		d, l := exact(sample.StretchedDfa(given.d)), slices.Clone(given.l[:cap(given.l)])
		first, second := asked(given), asked(given)
		scribbled(first)
		if !alike(second, want) {
			t.Errorf("once an answer was written over, another one, of %s and %v, is\n%v, and was\n%v", brief(q.d), q.l, second, want)
		}
		if exact(sample.StretchedDfa(given.d)) != d || !slices.Equal(given.l[:cap(given.l)], l) {
			t.Errorf("once an answer was written over, what was handed in is\n%s, and was\n%s", front(exact(sample.StretchedDfa(given.d))), front(d))
		}
		if third := asked(given); !alike(third, want) {
			t.Errorf("once an answer was written over, a later one, of %s and %v, is\n%v, and was\n%v", brief(q.d), q.l, third, want)
		}
		third := asked(given)
		sample.ScribbleDfa(given.d)
		scribble(given.l)
		scribble(second.reach)
		if !alike(third, want) {
			t.Errorf("once what was handed in was written over, an answer, of %s and %v, is\n%v, and was\n%v", brief(q.d), q.l, third, want)
		}
		if t.Failed() {
			return
		}
	}
}

// No two lists of an answer share memory, nor the room behind them: each row grows alone.
func TestP2001RowsGrowAlone(t *testing.T) {
	next := sample.Chances()
	for range 500 {
		d := sample.AnyDfa(1+next(12), next)
		want, _ := modelOf(d).keep(upTo(0, len(d.Label)))
		kept, _ := Keep(d, upTo(0, len(d.Label)))
		trimmed, _ := Trim(kept)
		trim := copied(trimmed)
		for _, x := range []api.Dfa{kept, trimmed} {
			for s := range x.Next {
				_ = append(x.Next[s], 77, 78, 79)
			}
			_ = append(append(x.Next, []int{5}), []int{6})
			_ = append(x.Label, 77, 78)
			_ = append(x.Names, "other", "others")
		}
		if !same(kept, want) || !same(trimmed, trim) {
			t.Fatalf("once lists grew there are %s, want %s, and %s, want %s", brief(kept), brief(want), brief(trimmed), brief(trim))
		}
		if sample.SharedDfas(kept, trimmed, d) {
			t.Fatalf("a place lies in two lists, of %s", brief(d))
		}
	}
}

// Rows that lie in one memory are told as rows of their own.
func TestP2001SharedRows(t *testing.T) {
	row := []int{1, 2, 0}
	d := quiet(3, 3)
	d.Next = [][]int{row, row, row}
	kept, wrong := Keep(d, []int{0, 1, 2})
	holdDfa(t, kept, wrong, d, "Keep of rows that are one")
	kept.Next[0][0] = 77
	if kept.Next[1][0] != 1 || row[0] != 1 {
		t.Errorf("once a row was written over the others are %v, and %v", kept.Next[1], row)
	}
	// A list that is one of the machine's own.
	kept, wrong = Keep(d, append(d.Next[0][2:], 1, 2))
	holdDfa(t, kept, wrong, d, "Keep of a part of a row, and more")
	x := unary(1, 2, 0)
	x.Names, x.Label = called(2), []int{0, 2, 1}
	want, _ := modelOf(x).keep([]int{0, 2, 1})
	kept, wrong = Keep(x, x.Label)
	holdDfa(t, kept, wrong, want, "Keep of the machine's own labels")
	scribble(x.Label)
	holdDfa(t, kept, wrong, want, "Keep of the machine's own labels, once they were written over,")
}

// Classes and widths are values.
func TestP2001ClassesStay(t *testing.T) {
	d := ab()
	x, _ := Trim(d)
	x.Of['a'], x.Width = 7, 9
	if !Same(d, ab()) {
		t.Errorf("once an answer was changed there is %s", brief(d))
	}
}

// Nil and empty lists and words mean the same.
func TestP2001Empty(t *testing.T) {
	next := sample.Chances()
	for range 300 {
		d := sample.AnyDfa(1+next(5), next)
		if Run(d, nil) != Run(d, []byte{}) || Tell(d, nil) != Tell(d, []byte{}) || Name(d, nil) != Name(d, []byte{}) {
			t.Errorf("an empty word is not as none, of %s", brief(d))
		}
		holdKeepError(t, d, nil, api.ErrArg)
		holdKeepError(t, d, []int{}, api.ErrArg)
		d.Names, d.Label = nil, make([]int, len(d.Label))
		x := d
		x.Names = []string{}
		if !alike(asked(question{d: d, other: d}), asked(question{d: x, other: x})) {
			t.Errorf("an empty list of names is not as none, of %s", brief(d))
		}
	}
}

// Many calls at once answer as one after another, and so do later ones.
func TestP2001AtOnce(t *testing.T) {
	t.Parallel()
	next := sample.Chances()
	var l []question
	for range 400 {
		l = append(l, anyQuestion(40, next))
	}
	for _, place := range sample.Others(l, asked, alike) {
		t.Errorf("at once, or later, the answers on %s, %v and %q are others", brief(l[place].d), l[place].l, l[place].w)
	}
}

package subset

import (
	"fmt"
	"slices"
	"testing"

	"doublet/api"
	"doublet/dfa"
	"doublet/sample"
	"doublet/texts"
)

// question: what is asked.
type question struct {
	n     api.Nfa
	names []string
	l     []api.Rule
	room  int
}

// answer: all that is told of it.
type answer struct {
	sets                       [][]int
	of, rules                  api.Dfa
	noSets, noMachine, noRules api.Errno
}

// asked: all calls, one after another.
func asked(q question) answer {
	var x answer
	x.sets, x.noSets = Sets(q.n, q.room)
	x.of, x.noMachine = Of(q.n, q.names, q.room)
	x.rules, x.noRules = Rules(q.l, q.room)
	return x
}

// alike: is all that was told the same?
func alike(x, y answer) bool {
	return sameSets(x.sets, y.sets) && dfa.Same(x.of, y.of) && dfa.Same(x.rules, y.rules) && x.noSets == y.noSets && x.noMachine == y.noMachine && x.noRules == y.noRules
}

func (x answer) String() string {
	return fmt.Sprintf("%d %s; %d %s; %d %s", x.noSets, several(x.sets), x.noMachine, single(x.of), x.noRules, single(x.rules))
}

func (q question) String() string {
	return fmt.Sprintf("%s, %q, %s, for %d", brief(q.n), q.names, rules(q.l), q.room)
}

// anyQuestion: a random one, that has answers or errors.
func anyQuestion(states int, next func(most int) int) question {
	q := question{n: anyNfa(1+next(states), next), room: 200}
	q.names = anyNames(q.n, next)
	q.l = ruled(sample.SomeTrees(4, next)...)
	switch next(8) {
	case 0:
		q.n = spoilt(q.n, next)
	case 1:
		q.l = append(q.l, api.Rule{Name: "y", Body: sample.Wild(next)})
	case 2:
		q.room = next(30)
	case 3:
		q.room = []int{0, -1, most + 1, least, greatest}[next(5)]
	}
	if weightOf(q.l) > 2000 {
		q.l = q.l[:0]
	}
	return q
}

// inRoom: the same question, all of whose lists have room behind them, with marks in it.
func inRoom(q question) question {
	names := append(slices.Clone(q.names), "mark", "9")[:len(q.names)]
	return question{sample.RoomyMachine(q.n), names, sample.RoomyRules(q.l), q.room}
}

// given: all that was handed in, with the room behind it, as a text.
func given(q question) string {
	return fmt.Sprint(texts.Machine(sample.Stretched(q.n)), q.names[:cap(q.names)], sample.DumpRules(q.l))
}

// scribble writes over all that was told, and the room behind it.
func scribble(x answer) {
	sets := x.sets[:cap(x.sets)]
	for i, subset := range sets {
		subset = subset[:cap(subset)]
		for place := range subset {
			subset[place] = 77
		}
		sets[i] = []int{78}
	}
	sample.ScribbleDfa(x.of)
	sample.ScribbleDfa(x.rules)
}

// What is handed in stays as it is, and so does the room behind it, which says nothing; what is told shares nothing with it, nor with another answer.
func TestP2101Memory(t *testing.T) {
	t.Parallel()
	next := sample.Chances()
	errors := map[api.Errno]int{}
	for range 1500 {
		q := anyQuestion(10, next)
		r := inRoom(q)
		kept := given(r)
		want := asked(q)
		errors[want.noSets]++
		errors[want.noMachine]++
		errors[want.noRules]++
		first, second := asked(r), asked(r)
		hold := func(when string, x answer) {
			t.Helper()
			if !alike(x, want) {
				t.Errorf("%s is told of %s\n%s, want\n%s", when, q, x, want)
			}
		}
		hold("with room behind", first)
		if given(r) != kept {
			t.Errorf("what was handed in became\n%s, and was\n%s", front(given(r)), front(kept))
		}
		scribble(first)
		hold("once an answer was written over, by an earlier call", second)
		if given(r) != kept {
			t.Errorf("once an answer was written over, what was handed in became\n%s, and was\n%s", front(given(r)), front(kept))
		}
		hold("once an answer was written over, later", asked(r))
		sample.ScribbleMachine(r.n)
		sample.ScribbleRules(r.l)
		for i := range r.names[:cap(r.names)] {
			r.names[:cap(r.names)][i] = "scribbled"
		}
		hold("once what was handed in was written over, by an earlier call", second)
		hold("later", asked(q))
		if t.Failed() {
			return
		}
	}
	if min(errors[0], errors[1], errors[6], errors[7]) < 30 || errors[0] < 1500 {
		t.Errorf("so often there were errors: %v", errors)
	}
}

// No two lists of an answer share memory, nor the room behind them: each grows alone, and each number has a place of its own.
func TestP2101ListsGrowAlone(t *testing.T) {
	t.Parallel()
	next := sample.Chances()
	for range 500 {
		q := anyQuestion(10, next)
		x, want := asked(q), asked(q)
		for _, subset := range x.sets {
			_ = append(subset, 77, 78)
		}
		_ = append(x.sets, ints(79))
		for _, d := range []api.Dfa{x.of, x.rules} {
			for _, row := range d.Next {
				_ = append(row, 77, 78)
			}
			_ = append(append(d.Next, ints(79)), ints(80))
			_ = append(d.Label, 77, 78)
			_ = append(d.Names, "other", "others")
		}
		if sample.SharedLists(slices.Concat(x.sets, x.of.Next, x.rules.Next)...) || sample.SharedDfas(x.of, x.rules) {
			t.Fatalf("a place lies in two lists, of %s", q)
		}
		if !alike(x, want) {
			t.Fatalf("once lists grew there is of %s\n%s, want\n%s", q, x, want)
		}
	}
}

// Names that are one memory with other things, and lists that are parts of one list.
func TestP2101SharedLists(t *testing.T) {
	all := called(10)
	kept := slices.Clone(all)
	n := labelled(with(bare(2), edge(0, "a", 1)), 0, 3)
	d, wrong := Of(n, all[2:5], most)
	want := states("a", kept[2:5], ints(0, 0, 3), ints(1, 2), ints(1, 1), ints(1, 1))
	holdDfa(t, d, wrong, want, "Of with a part of a list")
	_ = append(d.Names, "more")
	d.Names[0] = "other"
	if !slices.Equal(all, kept) {
		t.Errorf("the names became %q", all)
	}
	// Edges, and Kids, that are one memory in several places.
	star := of(6, of(4, a(), b()))
	l := ruled(star, of(4, star, star), of(5, star, b()))
	one, _ := Rules(l, most)
	other, _ := Rules(sample.RoomyRules(l), most)
	if !dfa.Same(one, other) {
		t.Errorf("Rules of trees in one memory is %s, of others %s", single(one), single(other))
	}
}

// Nil and empty lists mean the same.
func TestP2101Empty(t *testing.T) {
	next := sample.Chances()
	for range 300 {
		n := anyNfa(1+next(6), next)
		n.Links, n.Edges = nil, n.Edges[:next(2)*len(n.Edges)]
		x := n
		x.Links = []api.Link{}
		if len(n.Edges) == 0 {
			n.Edges, x.Edges = nil, []api.Edge{}
		}
		n.Accept = make([]int, n.States)
		x.Accept = n.Accept
		one, other := asked(question{n: n, room: 500}), asked(question{n: x, names: []string{}, l: []api.Rule{}, room: 500})
		if !alike(one, other) {
			t.Errorf("of nil lists is told %s, of empty ones %s", one, other)
		}
	}
	for _, n := range []api.Nfa{{}, {Links: []api.Link{}, Edges: []api.Edge{}, Accept: []int{}}} {
		holdSetsError(t, n, 5, api.ErrKind)
		holdOfError(t, n, nil, 5, api.ErrKind)
		holdOfError(t, n, []string{}, 5, api.ErrKind)
	}
}

// Many calls at once answer as one after another, and so do later ones.
func TestP2101AtOnce(t *testing.T) {
	t.Parallel()
	next := sample.Chances()
	var l []question
	for range 300 {
		l = append(l, anyQuestion(12, next))
	}
	for _, place := range sample.Others(l, asked, alike) {
		t.Errorf("at once, or later, another answer is told of %s", l[place])
	}
}

// Machines, names, rules and numbers of whatever there is.
func TestP2101WhateverIsHandedIn(t *testing.T) {
	t.Parallel()
	next := sample.Chances()
	numbers := []int{least, least + 1, -1 << 32, -65536, -2, -1, 0, 1, 2, 3, 63, 64, 65, 255, 256, 65535, 65536, 65537, 1 << 32, greatest - 1, greatest}
	some := func() int {
		if next(2) == 0 {
			return next(3)
		}
		return numbers[next(len(numbers))]
	}
	errors := map[api.Errno]int{}
	for range 10000 {
		n := bare(1 + next(3))
		for range next(3) {
			n.Links = append(n.Links, api.Link{From: next(n.States), To: next(n.States)})
			n.Edges = append(n.Edges, api.Edge{From: next(n.States), Set: sample.AnySet(next), To: next(n.States)})
		}
		if next(3) == 0 {
			changed := sample.Numbers(&n)
			*changed[next(len(changed))] = some()
		}
		if next(8) == 0 {
			n.Accept = append(n.Accept, some())
		}
		var names []string
		for range next(4) {
			names = append(names, []string{"a", "b", "C", "d_9", "", "9", "a b", "\x00"}[next(8)])
		}
		room := some()
		if room > 100 && room <= most && n.States > 6 {
			room = 100
		}
		holdModelled(t, n, names, room)
		l := ruled(sample.SomeTrees(3, next)...)
		for i := range l {
			if next(4) == 0 {
				l[i].Body = sample.Wild(next)
			}
		}
		if weightOf(l) < 100 {
			want, wrong := modelRules(l, min(room, 100))
			got, other := Rules(l, min(room, 100))
			if errors[other]++; wrong != other || !dfa.Same(got, want) {
				t.Errorf("Rules, for %d, of %s tells %d, want %d", room, rules(l), other, wrong)
			}
		}
		if t.Failed() {
			return
		}
	}
	if min(errors[0], errors[1], errors[6], errors[7]) < 100 {
		t.Errorf("so often there were errors: %v", errors)
	}
}

package nfa

import (
	"testing"

	"doublet/api"
	"doublet/sample"
)

// withRoom: a machine as a text, with what lies behind its lists.
func withRoom(n api.Nfa) string { return shown(sample.Stretched(n)) }

// rows: lists of trees, such as have a machine and such as have none.
func rows() [][]api.Node {
	next := sample.Chances()
	l := [][]api.Node{nil, {}, {a()}, {e(), none(), hole()}, sample.Things()[:60], sample.Around(), again(65, a()), {a(), {}}, {exactly(65534)}, {exactly(65535)}, {exactly(Top)}}
	for _, x := range append(sample.Around(), sample.MayNot()...) {
		l = append(l, []api.Node{x}, []api.Node{b(), x, x})
	}
	for range 200 {
		l = append(l, someTrees(6, next))
	}
	return l
}

// asked: what Of, Size and Weight tell of some trees, as a text.
func asked(l []api.Node) string {
	n, wrong := Of(l)
	text := shown(n) + " " + string(rune('A'+wrong))
	// Of trees that may not be these tell whatever they tell, but always the same.
	numbers := []int{Size(l)}
	for _, x := range l {
		numbers = append(numbers, Weight(x))
	}
	return text + shown(api.Nfa{Accept: numbers})
}

func TestP1601ArgumentsStay(t *testing.T) {
	for _, l := range rows() {
		given := sample.Roomy(l)
		kept := sample.Dump(given)
		told := asked(given)
		if sample.Dump(given) != kept {
			t.Errorf("%s became %s", front(kept), front(sample.Dump(given)))
		}
		if told != asked(l) {
			t.Errorf("what is told of %s hangs on the room behind", several(l))
		}
	}
	next := sample.Chances()
	for range 3000 {
		plain := sample.AnyMachine(1+next(30), next)
		// Most of them may not be then.
		for range next(3) {
			l := numbersOf(&plain)
			*l[next(len(l))] = []int{least, -1, 0, 65, greatest}[next(5)]
		}
		x, y := sample.RoomyMachine(plain), sample.RoomyMachine(plain)
		kept := withRoom(x)
		if Right(x) != Right(plain) || !Same(x, y) || !Same(plain, x) {
			t.Errorf("what is told of %s hangs on the room behind", shown(plain))
		}
		if withRoom(x) != kept || withRoom(y) != kept {
			t.Errorf("%s became %s and %s", kept, withRoom(x), withRoom(y))
		}
	}
}

func TestP1601NewMemory(t *testing.T) {
	for _, l := range rows() {
		given := sample.Roomy(l)
		kept := sample.Dump(given)
		first, _ := Of(given)
		second, _ := Of(given)
		want := shown(second)
		if shown(first) != want {
			t.Errorf("Of %s is told in two ways:\n%s, and\n%s", several(l), front(shown(first)), front(want))
		}
		sample.ScribbleMachine(first)
		if shown(second) != want {
			t.Errorf("the answers of Of %s share memory", several(l))
		}
		if sample.Dump(given) != kept {
			t.Errorf("the answer of Of %s shares memory with the trees", several(l))
		}
		if third, _ := Of(given); shown(third) != want {
			t.Errorf("of %s comes %s, once an answer was written over", several(l), front(shown(third)))
		}
		sample.Scribble(given)
		if shown(second) != want {
			t.Errorf("the answer of Of %s hangs on the trees that were handed in", several(l))
		}
	}
}

// Answers do not grow into each other: each list is by itself, with the room behind it.
func TestP1601RoomBehindAnswers(t *testing.T) {
	n, other := made(t, read("(a|b)*c{2,3}"), read("x?")), made(t, read("(a|b)*c{2,3}"), read("x?"))
	want := shown(other)
	n.Links = append(n.Links, api.Link{From: 91})
	n.Edges = append(n.Edges, api.Edge{From: 92})
	n.Accept = append(n.Accept, 93)
	if shown(other) != want || shown(made(t, read("(a|b)*c{2,3}"), read("x?"))) != want {
		t.Error("what is put behind an answer is to be seen in another one")
	}
}

// What is told hangs on nothing that was asked ahead, or is asked at the same time.
func TestP1601AtOnce(t *testing.T) {
	l := rows()
	var told, texts []string
	var machines []api.Nfa
	for _, some := range l {
		n, _ := Of(some)
		told, texts, machines = append(told, asked(some)), append(texts, shown(n)), append(machines, n)
	}
	sample.AtOnce(len(l), func(place int) {
		if asked(l[place]) != told[place] {
			t.Errorf("at once is told of %s what was not told ahead", several(l[place]))
		}
		// Beside an error there is a machine without states.
		n, next := machines[place], (place+1)%len(l)
		if Right(n) != (n.States > 0) || !Same(n, n) || Same(n, machines[next]) != (texts[place] == texts[next]) {
			t.Errorf("at once Right, or Same, is wrong of %s", front(texts[place]))
		}
	})
}

// A node without Kids may have a list of none.
func TestP1601EmptyLists(t *testing.T) {
	for _, kind := range []api.Kind{api.KindNone, api.KindEmpty, api.KindSet} {
		x := api.Node{Kind: kind}
		y := x
		y.Kids = []api.Node{}
		for _, above := range []func(x api.Node) api.Node{func(x api.Node) api.Node { return x }, func(x api.Node) api.Node { return of(4, x, rep(x, 2, -1), of(6, x)) }} {
			if asked([]api.Node{above(x)}) != asked([]api.Node{above(y)}) {
				t.Errorf("nil Kids of a node of kind %d are not as empty ones", kind)
			}
		}
	}
}

// holdEnds: Weight and Size of whatever there is end; Of tells ErrKind, if a tree may not be.
func holdEnds(t *testing.T, l ...api.Node) {
	t.Helper()
	for _, x := range l {
		Weight(x)
		Size([]api.Node{a(), x, x})
		holdWrong(t, []api.Node{x}, api.ErrKind)
	}
	Size(l)
}

func TestP1601TreesThatMayNotBe(t *testing.T) {
	t.Parallel()
	for x := range sample.Faults() {
		holdEnds(t, x)
	}
	holdEnds(t, sample.MayNot()...)
	holdEnds(t, sample.TooGreat()...)
	// Of a kind with no Kids, or too few, or too many.
	for kind := api.Kind(-2); kind < 13; kind++ {
		for _, n := range []int{0, 1, 2, 3, 5000} {
			x := of(kind, again(n, a())...)
			for _, ends := range [][2]int{{0, 0}, {0, -1}, {2, 5}, {5, 2}, {-3, -2}, {least, greatest}, {greatest, least}, {greatest, -1}, {greatest, greatest}, {least, least}, {1 << 40, 1 << 50}} {
				y := x
				y.Lo, y.Hi = ends[0], ends[1]
				Weight(y)
				Weight(rep(y, 2, 3))
				Size([]api.Node{y, of(4, y, of(5, y), y)})
			}
		}
	}
	// Few nodes are made, and very many met: 2^31 - 1.
	twin := sample.Within(31, a(), func(x api.Node) api.Node { return of(4, x, x) })
	holdEnds(t, twin, of(6, twin), of(4, a(), twin), rep(twin, 0, 0))
	Size(again(100, twin))
	if Size(again(1<<18, a())) != 1<<19+1 {
		t.Error("Size of many trees")
	}
}

// Trees of whatever there is.
func TestP1601WhateverIsHandedIn(t *testing.T) {
	t.Parallel()
	next := sample.Chances()
	var met [api.ErrState + 1]int
	for range 2500 {
		var l []api.Node
		for range 1 + next(3) {
			l = append(l, sample.Wild(next))
		}
		wrong := holdModelled(t, l...)
		met[wrong]++
		asked(l)
		if t.Failed() {
			return
		}
	}
	if min(met[api.OK], met[api.ErrKind], met[api.ErrBig]) < 100 {
		t.Errorf("so often each error was told: %v", met)
	}
}

package closure

import (
	"bytes"
	"slices"
	"testing"

	"doublet/api"
	"doublet/sample"
)

// What is handed in stays as it is, and so does the room behind it; the room says nothing.
func TestP1701ArgumentsStay(t *testing.T) {
	next := sample.Chances()
	for range 2000 {
		n := sample.AnyMachine(1+next(12), next)
		given := sample.RoomyMachine(n)
		kept := shown(sample.Stretched(given))
		m, plain := at(t, given), at(t, n)
		for range 3 {
			l := anyList(n.States, next)
			list, w := sample.RoomyList(l, 1, 0, 2, -9, 1), sample.RoomyText(sample.AnyWord(next(5), "ab", next))
			room, text := slices.Clone(list[:cap(list)]), slices.Clone(w[:cap(w)])
			b := sample.Edgy[next(len(sample.Edgy))]
			holdList(t, m.Closure(list), plain.Closure(l), "of %s Closure(%v) with room behind", shown(n), l)
			holdList(t, m.Step(list, b), plain.Step(l, b), "of %s Step(%v, %d) with room behind", shown(n), l, b)
			holdList(t, m.Labels(list), plain.Labels(l), "of %s Labels(%v) with room behind", shown(n), l)
			holdList(t, m.Run(w), plain.Run(slices.Clip(slices.Clone(w))), "of %s Run(%q) with room behind", shown(n), w)
			m.Tell(w)
			if !slices.Equal(list[:cap(list)], room) || !bytes.Equal(w[:cap(w)], text) {
				t.Errorf("what was handed in became %v and %q, and was %v and %q", list[:cap(list)], w[:cap(w)], room, text)
			}
		}
		if shown(sample.Stretched(given)) != kept {
			t.Errorf("the machine that was handed in became %s, and was %s", shown(sample.Stretched(given)), kept)
		}
		if t.Failed() {
			return
		}
	}
}

// answers: lists that calls answer, of a machine and a list.
func answers(m *Machine, l []int) [][]int {
	w := []byte("ab")
	return [][]int{m.Start(), m.Closure(l), m.Step(l, 'a'), m.Step(l, 'b'), m.Run(nil), m.Run(w[:1]), m.Run(w), m.Labels(l), m.Labels(m.Run(nil))}
}

// Answers are new memory: to write over them changes nothing of the machine, of the list that was handed in, nor of other answers.
func TestP1701NewMemory(t *testing.T) {
	next := sample.Chances()
	for range 1000 {
		n := sample.AnyMachine(1+next(12), next)
		m := at(t, n)
		l := m.Closure(anyList(n.States, next))
		kept := slices.Clone(l)
		first, second := answers(m, l), answers(m, l)
		var want [][]int
		for _, some := range second {
			want = append(want, slices.Clone(some))
		}
		for _, some := range first {
			sample.ScribbleList(some, -7)
		}
		for i, some := range second {
			holdList(t, some, want[i], "of %s the answer %d, once others were written over,", shown(n), i)
		}
		holdList(t, l, kept, "of %s what was handed in, once answers were written over,", shown(n))
		for i, some := range answers(m, l) {
			holdList(t, some, want[i], "of %s a later answer %d", shown(n), i)
		}
		sample.ScribbleList(l, -7)
		for i, some := range second {
			holdList(t, some, want[i], "of %s the answer %d, once what was handed in was written over,", shown(n), i)
		}
		if t.Failed() {
			return
		}
	}
	// Also where the answer is what was handed in, and where a list grows behind it.
	m := at(t, linked(5, 3, 4))
	l := []int{0, 2}
	one, other := m.Closure(l), m.Closure(l)
	one[0] = 1
	holdList(t, l, []int{0, 2}, "what was handed in")
	_ = append(one, 9)
	_ = append(other, 8)
	holdList(t, other, []int{0, 2}, "Closure")
}

// Nil and empty ones mean the same.
func TestP1701Empty(t *testing.T) {
	next := sample.Chances()
	for range 300 {
		n := sample.AnyMachine(1+next(8), next)
		m := at(t, n)
		for _, l := range [][]int{nil, {}, make([]int, 0, 5)} {
			holdList(t, m.Closure(l), nil, "Closure of no states")
			holdList(t, m.Step(l, 'a'), nil, "Step of no states")
			holdList(t, m.Labels(l), nil, "Labels of no states")
		}
		holdList(t, m.Run([]byte{}), m.Run(nil), "Run of an empty word")
		if m.Tell([]byte{}) != m.Tell(nil) {
			t.Error("Tell of an empty word")
		}
		x, y := n, n
		x.Links, x.Edges = nil, nil
		y.Links, y.Edges = []api.Link{}, n.Edges[:0]
		if asked(at(t, x), n.States) != asked(at(t, y), n.States) {
			t.Errorf("nil lists of %s are not as empty ones", shown(n))
		}
	}
}

// Many calls at once of one machine answer as one after another.
func TestP1701AtOnce(t *testing.T) {
	next := sample.Chances()
	type question struct {
		m    *Machine
		l    []int
		b    byte
		w    []byte
		told [][]int
		tell int
	}
	ask := func(q question) [][]int {
		return [][]int{q.m.Start(), q.m.Closure(q.l), q.m.Step(q.l, q.b), q.m.Run(q.w), q.m.Labels(q.l)}
	}
	var l []question
	for range 30 {
		n := sample.AnyMachine(1+next(100), next)
		m := at(t, n)
		for range 40 {
			q := question{m: m, l: anyList(n.States, next), b: "ab\xff"[next(3)], w: []byte(sample.AnyWord(next(5), "ab", next))}
			q.told, q.tell = ask(q), m.Tell(q.w)
			l = append(l, q)
		}
	}
	sample.AtOnce(len(l), func(place int) {
		q := l[place]
		for i, some := range ask(q) {
			holdList(t, some, q.told[i], "at once the answer %d of %v and %q", i, q.l, q.w)
		}
		if got := q.m.Tell(q.w); got != q.tell {
			t.Errorf("at once Tell(%q) is %d, want %d", q.w, got, q.tell)
		}
	})
}

// The same question is answered in the same way each time.
func TestP1701Again(t *testing.T) {
	next := sample.Chances()
	for range 30 {
		n := sample.AnyMachine(1+next(40), next)
		m := at(t, n)
		want := asked(m, n.States)
		for range 5 {
			if asked(m, n.States) != want || asked(at(t, n), n.States) != want {
				t.Fatalf("%s is told in two ways", shown(n))
			}
		}
	}
}

package mirror

import (
	"bytes"
	"slices"
	"testing"

	"doublet/api"
	"doublet/nfa"
	"doublet/sample"
	"doublet/tree"
)

// handed: trees of all kinds, such as may not be, and random ones.
func handed(next func(most int) int) []api.Node {
	l := slices.Concat(sample.Around(), sample.MayNot(), sample.Things())
	for n := range 500 {
		l = append(l, sample.Grown(1+n%50, next), sample.Small(1+n%20, next), sample.Wild(next))
	}
	return l
}

// fill writes over all bytes of a word, and of the room behind it.
func fill(w []byte) {
	for i := range w[:cap(w)] {
		w[:cap(w)][i] = '#'
	}
}

// A word stays as it is, and so does the room behind it; what is told shares nothing with it, nor with a later answer.
func TestP1801Word(t *testing.T) {
	for _, text := range append(sample.AllWords("ab", 4), "abcdefgh", "\x00\xff") {
		w := sample.RoomyText(text)
		kept := slices.Clone(w[:cap(w)])
		first, second := Word(w), Word(w)
		if !bytes.Equal(w[:cap(w)], kept) {
			t.Errorf("a word with room became %q, and was %q", w[:cap(w)], kept)
		}
		fill(first)
		if string(second) != reversed(text) || !bytes.Equal(w[:cap(w)], kept) {
			t.Errorf("Word(%q) shares memory", text)
		}
		fill(w)
		if string(second) != reversed(text) {
			t.Errorf("Word(%q) keeps what was handed in", text)
		}
		third := Word([]byte(text))
		_, _ = append(second, 'x'), append(third, 'y')
		if string(second) != string(third) || string(third) != reversed(text) {
			t.Errorf("Word(%q) is %q, and then %q", text, second, third)
		}
	}
	// A part of a word that goes on ahead and behind.
	all := []byte("abcdef")
	made := Word(all[2:4])
	fill(append(made, 'x', 'y'))
	if string(all) != "abcdef" {
		t.Errorf("a word became %q", all)
	}
}

// Trees stay as they are, and so does the room behind their lists, which says nothing; what is told shares nothing with them, nor with a later answer.
func TestP1801Tree(t *testing.T) {
	for _, x := range handed(sample.Chances()) {
		given := sample.Roomy([]api.Node{x})
		kept := sample.Dump(given)
		first, second := Tree(given[0]), Tree(given[0])
		if sample.Dump(given) != kept {
			t.Errorf("what was handed in became %s, and was %s", front(sample.Dump(given)), front(kept))
		}
		if sample.Shared(given[0], first, second) {
			t.Errorf("Tree(%s) shares memory", brief(x))
		}
		want := modelTree(x)
		holdTree(t, second, want, "with room behind Tree(%s)", brief(x))
		sample.Scribble([]api.Node{first})
		holdTree(t, second, want, "once an answer was written over, a later Tree(%s)", brief(x))
		sample.Scribble(given)
		holdTree(t, second, want, "once what was handed in was written over, Tree(%s)", brief(x))
		holdTree(t, Tree(x), want, "later Tree(%s)", brief(x))
		if t.Failed() {
			return
		}
	}
}

// One and the same memory in several places of what is handed in is not one in an answer.
func TestP1801TreeOfSameMemory(t *testing.T) {
	star := of(6, of(4, a(), b()))
	row, either := of(4, a(), star), of(5, star, of(8, star))
	for _, x := range []api.Node{of(4, star, star), of(4, row, row), of(5, row, row), of(5, row, of(4, star, row)), of(4, either, of(5, row, either), either), of(6, of(4, star, b(), star)), rep(of(4, row, of(8, row)), 2, 2)} {
		y := Tree(x)
		holdTree(t, y, modelTree(x), "Tree(%s)", brief(x))
		if sample.Shared(y) {
			t.Errorf("Tree(%s) shares memory", brief(x))
		}
	}
	// Kids that are a part of a list.
	all := []api.Node{a(), b(), of(4, b(), c()), e()}
	kept := sample.Dump(all)
	for lo := range 5 {
		for hi := lo; hi <= 4; hi++ {
			for _, kind := range []api.Kind{4, 5} {
				y := Tree(of(kind, all[lo:hi]...))
				sample.Scribble([]api.Node{y})
				_ = append(y.Kids, none())
			}
		}
	}
	if sample.Dump(all) != kept {
		t.Errorf("a list became %s, and was %s", sample.Dump(all), kept)
	}
}

// asked: what Nfa tells of a machine, as a text.
func asked(n api.Nfa, label int) string {
	m, wrong := Nfa(n, label)
	return shown(m) + string(rune('0'+wrong))
}

// Machines stay as they are, and so does the room behind their lists, which says nothing; what is told shares nothing with them, nor with a later answer.
func TestP1801Nfa(t *testing.T) {
	next := sample.Chances()
	for i := range 3000 {
		n := sample.AnyMachine(1+next(12), next)
		switch i % 3 {
		case 0:
			n.Links = n.Links[:min(len(n.Links), next(2))]
		case 1:
			n.Edges = n.Edges[:min(len(n.Edges), next(2))]
		}
		label := []int{1, n.Accept[next(n.States)], next(66)}[i%3]
		given := sample.RoomyMachine(n)
		kept := shown(sample.Stretched(given))
		want := asked(n, label)
		first, _ := Nfa(given, label)
		second, wrong := Nfa(given, label)
		if shown(sample.Stretched(given)) != kept {
			t.Errorf("what was handed in became %s, and was %s", shown(sample.Stretched(given)), kept)
		}
		same := func(when string) {
			t.Helper()
			if got := shown(second) + string(rune('0'+wrong)); got != want {
				t.Errorf("%s Nfa(%s, %d) is %s, want %s", when, shown(n), label, got, want)
			}
		}
		same("with room behind")
		sample.ScribbleMachine(first)
		same("once an answer was written over,")
		if shown(sample.Stretched(given)) != kept {
			t.Errorf("once an answer was written over, what was handed in became %s, and was %s", shown(sample.Stretched(given)), kept)
		}
		sample.ScribbleMachine(given)
		same("once what was handed in was written over,")
		if later := asked(n, label); later != want {
			t.Errorf("later Nfa(%s, %d) is %s, want %s", shown(n), label, later, want)
		}
		if t.Failed() {
			return
		}
	}
}

// Nil and empty ones mean the same.
func TestP1801Empty(t *testing.T) {
	for kind := api.Kind(0); kind < 11; kind++ {
		nils, empty := of(kind), api.Node{Kind: kind, Kids: []api.Node{}}
		holdTree(t, Tree(empty), nils, "Tree of kind %d with empty Kids", kind)
		holdTree(t, Tree(of(4, a(), empty)), of(4, nils, a()), "Tree of kind %d with empty Kids, in a row", kind)
	}
	n, m := bare(3), bare(3)
	m.Links, m.Edges = []api.Link{}, make([]api.Edge, 0, 3)
	if asked(n, 1) != asked(m, 1) {
		t.Errorf("of nil lists is told %s, of empty ones %s", asked(n, 1), asked(m, 1))
	}
	holdTree(t, Tree(api.Node{}), api.Node{}, "Tree of a zero node")
	holdWrong(t, api.Nfa{}, 1, api.ErrKind)
	holdWrong(t, api.Nfa{Links: []api.Link{}, Edges: []api.Edge{}, Accept: []int{}}, 0, api.ErrKind)
}

// Many calls at once answer as one after another.
func TestP1801AtOnce(t *testing.T) {
	next := sample.Chances()
	type question struct {
		w       []byte
		x, told api.Node
		n       api.Nfa
		label   int
		made    string
	}
	trees := handed(next)
	var l []question
	for i := range 1000 {
		q := question{w: []byte(sample.AnyWord(next(20), sample.Edgy, next)), x: trees[i*7%len(trees)], n: sample.AnyMachine(1+next(20), next), label: next(66)}
		q.told, q.made = Tree(q.x), asked(q.n, q.label)
		l = append(l, q)
	}
	sample.AtOnce(len(l), func(place int) {
		q := l[place]
		if got := Word(q.w); string(got) != reversed(string(q.w)) {
			t.Errorf("at once Word(%q) is %q", q.w, got)
		}
		if !tree.Same(Tree(q.x), q.told) {
			t.Errorf("at once Tree(%s) is another one", brief(q.x))
		}
		if got := asked(q.n, q.label); got != q.made {
			t.Errorf("at once Nfa(%s, %d) is %s, want %s", shown(q.n), q.label, got, q.made)
		}
	})
}

// Machines and labels of whatever there is: nothing panics, and what may not be is told so.
func TestP1801WhateverIsHandedIn(t *testing.T) {
	numbers := []int{least, -1 << 32, -2, -1, 0, 1, 2, 3, 64, 65, 65535, 65536, 65537, 1 << 40, greatest}
	for _, states := range numbers {
		for _, start := range numbers {
			for _, other := range numbers {
				n := api.Nfa{States: states, Start: start, Links: []api.Link{{From: other, To: start}}, Edges: []api.Edge{{From: start, To: other}}, Accept: []int{other}}
				for _, label := range numbers {
					m, wrong := Nfa(n, label)
					want := api.OK
					switch {
					case !nfa.Right(n):
						want = api.ErrKind
					case label < 1 || label > 64:
						want = api.ErrRange
					}
					if wrong != want || (m.States == 2) != (wrong == api.OK) {
						t.Errorf("Nfa(%s, %d) tells %d, want %d, and %d states", shown(n), label, wrong, want, m.States)
					}
				}
			}
		}
	}
	for x := range sample.Faults() {
		if y := Tree(x); tree.Size(y) != tree.Size(x) {
			t.Errorf("Tree(%s) has %d nodes", brief(x), tree.Size(y))
		}
	}
}

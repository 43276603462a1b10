package facts

import (
	"bytes"
	"testing"

	"doublet/api"
	"doublet/sample"
	"doublet/tree"
)

// Each fault at the root, and at each place of other trees: also where what says the words does not ask for it.
func TestP1001MayNotBe(t *testing.T) {
	for x := range sample.Faults() {
		holdMayNot(t, x)
	}
}

// As many nodes as may be, and one more.
func TestP1001TooManyNodes(t *testing.T) {
	for _, kid := range []api.Node{a(), e(), none()} {
		for _, kind := range []api.Kind{4, 5} {
			if x := sample.Beside(kind, 4096, kid); asked(x) == asked(api.Node{}) {
				t.Errorf("nothing is told of a tree of 4096 nodes of kind %d", kind)
			}
		}
	}
	if x := sample.Chain(4096); asked(x) == asked(api.Node{}) {
		t.Error("nothing is told of a chain of 4096 nodes")
	}
	for _, x := range sample.TooGreat() {
		holdMayNot(t, x)
	}
	// Both Kids of a node are one and the same memory: few nodes are made, and very many met.
	x := a()
	for n := 1; n < 31; n++ {
		x = of(4, x, x)
		if n < 12 {
			holdAll(t, x, answers{bounded: true, shortest: 1 << n, longest: 1 << n, first: set("a"), last: set("a")}, many(1<<n, "a"))
		} else {
			holdMayNot(t, x)
		}
	}
}

func TestP1001ArgumentsStay(t *testing.T) {
	next := sample.Chances()
	l := append(append(around(), sample.MayNot()...), things()...)
	for n := range 300 {
		l = append(l, sample.Grown(1+n%50, next), small(1+n%12, next), sample.Spoilt(sample.Grown(1+n%9, next), next))
	}
	for _, x := range l {
		given := sample.Roomy([]api.Node{x})
		kept := sample.Dump(given)
		told := asked(given[0])
		word, ok := Least(given[0], 10000)
		if sample.Dump(given) != kept {
			t.Errorf("%.300s became %.300s", kept, sample.Dump(given))
		}
		// The room behind lists says nothing.
		plain, also := Least(x, 10000)
		if told != asked(x) || !bytes.Equal(word, plain) || ok != also {
			t.Errorf("what is told of %s hangs on the room behind", brief(x))
		}
		sample.Scribble(given)
		if !bytes.Equal(word, plain) {
			t.Errorf("Least of %s became %q", brief(x), word)
		}
	}
}

// A node without Kids may have a list of none.
func TestP1001EmptyLists(t *testing.T) {
	for _, kind := range []api.Kind{1, 2, 3} {
		x := api.Node{Kind: kind}
		y := x
		y.Kids = []api.Node{}
		want, word := answersOf(x)
		holdAll(t, y, want, word)
		holdAll(t, of(5, y, of(4, y, y)), asked(of(5, x, of(4, x, x))), word)
	}
	holdMayNot(t, api.Node{Kind: 4, Kids: []api.Node{}})
	holdMayNot(t, api.Node{Kids: []api.Node{}})
}

func TestP1001NewMemory(t *testing.T) {
	for _, text := range []string{"", "a", "abc", "a|b|c", "b|a", "(ab){3}c", "(a|b){7}", "(x|(abc){2}|aabbcc)(d|)", "a{1000}", "(a{5}){5}|(b{5}){5}"} {
		x := read(text)
		first, ok := Least(x, 1000)
		second, _ := Least(x, 1000)
		kept := string(second)
		if string(first) != kept || !ok {
			t.Errorf("Least of %q is told in two ways: %q and %q", text, first, second)
		}
		room := first[:cap(first)]
		for i := range room {
			room[i] = '#'
		}
		if string(second) != kept {
			t.Errorf("the answers of Least of %q share memory", text)
		}
		holdLeast(t, x, kept)
	}
}

// What is told of one tree hangs on none that was asked ahead of it, or at the same time.
func TestP1001OneAnswerAndTheNext(t *testing.T) {
	trees := append(around(), sample.MayNot()...)
	var told []answers
	var words []string
	for _, x := range trees {
		word, _ := Least(x, 1000)
		told, words = append(told, asked(x)), append(words, string(word))
	}
	sample.AtOnce(300, func(place int) {
		at := place % len(trees)
		word, _ := Least(trees[at], 1000)
		if asked(trees[at]) != told[at] || string(word) != words[at] {
			t.Errorf("at once is told of %s what was not told of it ahead", brief(trees[at]))
		}
	})
}

// Trees of whatever there is: nothing panics, and what may not be is told so.
func TestP1001WhateverIsHandedIn(t *testing.T) {
	next := sample.Chances()
	right := 0
	for range 20000 {
		x := sample.Wild(next)
		if !tree.Right(x) {
			holdMayNot(t, x)
			continue
		}
		right++
		shortest, longest, forever := lengths(x)
		long := stopped(longest)
		if forever {
			long = -1
		}
		holdLengths(t, x, stopped(shortest), long)
		for _, most := range []int{least, -1, 0, 1, 1000} {
			word, ok := said(x, most)
			holdWord(t, x, most, word, ok && len(word) <= most)
		}
		if t.Failed() {
			return
		}
	}
	if right < 5000 || right > 18000 {
		t.Errorf("%d trees may be", right)
	}
}

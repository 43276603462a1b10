package simple

import (
	"slices"
	"testing"

	"doublet/api"
	"doublet/sample"
	"doublet/tree"
)

// asked: what all calls tell of trees and numbers: Cat and Alt of all of them, the others of the first one. Of is the last one, and told with its error.
func asked(l []api.Node, lo, hi int) ([]api.Node, api.Errno) {
	made := []api.Node{Cat(l...), Alt(l...)}
	if len(l) == 0 {
		return made, api.OK
	}
	x, wrong := Of(l[0])
	return append(made, Star(l[0]), Plus(l[0]), Opt(l[0]), Rep(l[0], lo, hi), x), wrong
}

// holdNew: what is answered shares nothing with what was handed in, nor with itself, or with other answers.
func holdNew(t *testing.T, l []api.Node, made ...api.Node) {
	t.Helper()
	// The list itself is memory, too.
	if all := append(made, api.Node{Kids: l}); sample.Shared(all...) {
		t.Errorf("%s shares memory", written("what was made of", l))
	}
}

// holdStays: all calls leave what was handed in, and the room behind it, as it was, and what is behind says nothing.
func holdStays(t *testing.T, l []api.Node, lo, hi int) {
	t.Helper()
	given := sample.Roomy(l)
	kept := sample.Dump(given)
	made, wrong := asked(given, lo, hi)
	if sample.Dump(given) != kept {
		t.Errorf("%s became %s", written("what was handed in,", l), sample.Dump(given))
	}
	holdNew(t, given, made...)
	plain, also := asked(l, lo, hi)
	if !slices.EqualFunc(made, plain, tree.Same) || wrong != also {
		t.Errorf("%s hangs on the room behind", written("what is told of", l))
	}
	// Neither hangs on the other one from now on.
	sample.Scribble(given)
	if !slices.EqualFunc(made, plain, tree.Same) {
		t.Errorf("%s is kept", written("what was handed in,", l))
	}
	sample.Scribble(made)
	if later, _ := asked(l, lo, hi); !slices.EqualFunc(later, plain, tree.Same) {
		t.Errorf("%s share memory", written("answers of", l))
	}
}

func TestP1201ArgumentsStayAndAnswersAreNew(t *testing.T) {
	next := sample.Chances()
	holdStays(t, nil, 0, 0)
	l := slices.Concat(sample.Around(), sample.MayNot(), sample.Things(), eachKind())
	for n := range 300 {
		l = append(l, sample.Grown(1+n%50, next), sample.Small(1+n%12, next), sample.Spoilt(sample.Grown(1+n%9, next), next), modelled(sample.Small(1+n%40, next)))
	}
	for i, x := range l {
		lo, hi := numbers[i%len(numbers)][0], numbers[i%len(numbers)][1]
		others := []api.Node{l[next(len(l))], l[next(len(l))]}
		for _, some := range [][]api.Node{{x}, {x, others[0]}, {x, x}, {others[0], x, others[1]}, {of(4, x, others[0]), of(4, others[1], x), x}, {of(5, x, others[0]), of(5, others[1], x), x}, {of(6, x)}, {of(7, x)}, {of(8, x)}, {times(x, 2, 3)}} {
			holdStays(t, some, lo, hi)
			holdStays(t, some, 2, 2)
		}
		if t.Failed() {
			return
		}
	}
}

// One and the same memory in several places of what is handed in is not one in an answer.
func TestP1201SameMemoryTwice(t *testing.T) {
	star := of(6, of(4, a(), b()))
	row, either := of(4, a(), star), of(5, star, of(8, star))
	l := []api.Node{star, row, either, star, of(7, either), row, times(row, 2, 3), either}
	made, _ := asked(l, 1, 2)
	holdNew(t, nil, made...)
	for _, x := range []api.Node{of(4, star, star), of(4, row, row), of(5, row, of(4, star, row)), of(4, either, of(5, row, either), either), of(6, of(4, star, b(), star)), times(of(4, row, of(8, row)), 2, 2)} {
		y, wrong := Of(x)
		if wrong != api.OK {
			t.Errorf("Of(%s) tells %d", brief(x), wrong)
		}
		holdNew(t, nil, y)
		holdNew(t, nil, Cat(x, x), Alt(x, of(4, x, x)), Star(x), Plus(x), Opt(x), Rep(x, 2, 3))
	}
}

// Nil and empty ones mean the same, of lists and of Kids; a zero tree is one that may not be.
func TestP1201Empty(t *testing.T) {
	holdTree(t, Cat([]api.Node{}...), e(), "Cat of no tree")
	holdTree(t, Cat(nil...), e(), "Cat of nil")
	holdTree(t, Alt([]api.Node{}...), none(), "Alt of no tree")
	holdTree(t, Alt(nil...), none(), "Alt of nil")
	for _, kind := range []api.Kind{1, 2, 3} {
		x := api.Node{Kind: kind}
		y := x
		y.Kids = []api.Node{}
		holdOf(t, y, modelled(x))
		holdOf(t, of(5, y, of(4, y, y)), modelled(x))
		nils, _ := asked([]api.Node{x, a()}, 2, 3)
		empty, _ := asked([]api.Node{y, a()}, 2, 3)
		if !slices.EqualFunc(nils, empty, tree.Same) {
			t.Errorf("of kind %d with nil Kids is told something else than with empty ones", kind)
		}
	}
	holdWrong(t, api.Node{})
	for kind := api.KindCat; kind <= api.KindRep; kind++ {
		holdWrong(t, api.Node{Kind: kind, Kids: []api.Node{}})
	}
}

// What is told of some trees hangs on none that was asked ahead of them, or at the same time.
func TestP1201OneAnswerAndTheNext(t *testing.T) {
	l := slices.Concat(sample.Around(), sample.Things(), sample.MayNot())
	at := func(i int) []api.Node { return []api.Node{l[i%len(l)], l[i*7%len(l)], l[i*31%len(l)]} }
	var told [][]api.Node
	for i := range 1000 {
		made, _ := asked(at(i), 2, 3)
		told = append(told, made)
	}
	sample.AtOnce(len(told), func(place int) {
		if made, _ := asked(at(place), 2, 3); !slices.EqualFunc(made, told[place], tree.Same) {
			t.Errorf("%s what was not told of it ahead", written("at once is told of", at(place)))
		}
	})
}

// Trees and numbers of whatever there is: nothing panics, and what may not be is told so.
func TestP1201WhateverIsHandedIn(t *testing.T) {
	next := sample.Chances()
	ends := []int{least, least + 1, -1001, -2, -1, 0, 1, 2, 3, 999, 1000, 1001, 1 << 40, greatest}
	wild := append(sample.MayNot(), api.Node{Kind: 4, Kids: []api.Node{{}, {}}}, api.Node{Kind: 6, Kids: []api.Node{{Kind: 8}, {Kind: 7}}}, of(7), of(8), of(6), times(of(8), 1, 1))
	for i, x := range wild {
		for _, lo := range ends {
			for _, hi := range ends {
				Rep(x, lo, hi)
				Rep(a(), lo, hi)
			}
		}
		for _, y := range wild {
			asked([]api.Node{x, y}, 1, -1)
			asked([]api.Node{of(4, x, y), of(5, y, x), of(api.Kind(i%12), x, y)}, 0, 1)
			asked([]api.Node{of(api.Kind(i%12), x), y, of(api.Kind(i%12), y)}, 0, -1)
		}
	}
	right, wrong := 0, 0
	for i := range 20000 {
		x := sample.Wild(next)
		if tree.Right(x) {
			holdOf(t, x, modelled(x))
			right++
		} else {
			holdWrong(t, x)
			wrong++
		}
		l := []api.Node{x}
		for range next(4) {
			l = append(l, sample.Wild(next))
		}
		lo, hi := ends[next(len(ends))], ends[next(len(ends))]
		if i%20 == 0 {
			holdStays(t, l, lo, hi)
		} else {
			asked(l, lo, hi)
		}
		if t.Failed() {
			return
		}
	}
	if min(right, wrong) < 2000 {
		t.Errorf("%d trees may be, and %d may not", right, wrong)
	}
}

// Those that make of trees ask of no limit: long lists, and trees as deep as promises hold of.
func TestP1201LongAndDeep(t *testing.T) {
	chain := sample.Chain(1 << 16)
	asked([]api.Node{chain, sample.Nested(4, 1<<15, true), sample.Nested(5, 1<<15, false), chain}, 2, 3)
	holdTree(t, Alt(chain, chain), chain, "Alt of a chain, twice")
	holdTree(t, Cat(e(), chain), chain, "Cat of a chain, and the empty word ahead")
	holdTree(t, Alt(again(1<<16, 9), again(1<<16, 9), again(1<<15, 9)), of(5, again(1<<16, 9), again(1<<15, 9)), "Alt of chains")
	l := different(40000)
	holdTree(t, Alt(append(l, l...)...), of(5, l...), "Alt of many")
	holdTree(t, Cat(l...), of(4, l...), "Cat of many")
	holdTree(t, Cat(slices.Repeat([]api.Node{of(4, a(), b()), e()}, 100000)...), of(4, slices.Repeat([]api.Node{a(), b()}, 100000)...), "Cat of many")
	holdTree(t, Alt(slices.Repeat([]api.Node{of(5, of(6, a()), b()), none()}, 100000)...), of(5, of(6, a()), b()), "Alt of the same")
}

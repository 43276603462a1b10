package deriv

import (
	"bytes"
	"math"
	"slices"
	"testing"

	"doublet/api"
	"doublet/sample"
	"doublet/sets"
	"doublet/tree"
)

// answer: what all calls tell of a tree and a word; By of its first byte.
type answer struct {
	behind, by     api.Node
	wrong, byWrong api.Errno
	is             bool
	isWrong        api.Errno
	atoms          []api.Set
}

func asked(x api.Node, w []byte) answer {
	var r answer
	r.behind, r.wrong = Word(x, w)
	if len(w) > 0 {
		r.by, r.byWrong = By(x, w[0])
	}
	r.is, r.isWrong = Says(x, w)
	r.atoms = Atoms(x)
	return r
}

func (r answer) same(other answer) bool {
	return tree.Same(r.behind, other.behind) && tree.Same(r.by, other.by) && r.wrong == other.wrong && r.byWrong == other.byWrong && r.is == other.is && r.isWrong == other.isWrong && slices.Equal(r.atoms, other.atoms)
}

// handed: trees of all kinds, of such as may not be, and random ones.
func handed(next func(int) int) []api.Node {
	l := slices.Concat(sample.Around(), sample.MayNot(), kindsWithin())
	for n := range 300 {
		l = append(l, sample.Grown(1+n%50, next), sample.Small(1+n%12, next), sample.Spoilt(sample.Grown(1+n%9, next), next))
	}
	return append(l, of(6, ahead(2047)))
}

// All calls leave what was handed in, and the room behind it, as it was; what is behind says nothing; no answer shares memory, with what was handed in or with another one.
func TestP1301ArgumentsStayAndAnswersAreNew(t *testing.T) {
	t.Parallel()
	next := sample.Chances()
	for i, x := range handed(next) {
		v := "ab"
		if tree.Right(x) {
			v, _ = spoken(x, 4, next)
		}
		for _, text := range []string{"", "a", v, v + anyWord(i%3, "ab", next)} {
			given, w := sample.Roomy([]api.Node{x}), sample.RoomyText(text)
			kept, word := sample.Dump(given), slices.Clone(w[:cap(w)])
			told := asked(given[0], w)
			if sample.Dump(given) != kept || !bytes.Equal(w[:cap(w)], word) {
				t.Errorf("what was handed in became %.300s and %q, and was %.300s and %q", sample.Dump(given), w[:cap(w)], kept, word)
			}
			if sample.Shared(given[0], told.behind, told.by) {
				t.Errorf("what is told of %s and %q shares memory", brief(x), text)
			}
			plain := asked(x, slices.Clip([]byte(text)))
			if !plain.same(told) {
				t.Errorf("what is told of %s and %q hangs on the room behind", brief(x), text)
			}
			// Neither hangs on the other one from now on.
			sample.Scribble(given)
			copy(w[:cap(w)], many(cap(w), "#"))
			if !plain.same(told) {
				t.Errorf("what was handed in, %s and %q, is kept", brief(x), text)
			}
			sample.Scribble([]api.Node{told.behind, told.by})
			for i := range told.atoms[:cap(told.atoms)] {
				told.atoms[:cap(told.atoms)][i] = sets.Of(7)
			}
			if later := asked(x, []byte(text)); !plain.same(later) {
				t.Errorf("answers of %s and %q share memory", brief(x), text)
			}
		}
		if t.Failed() {
			return
		}
	}
}

// One and the same memory in several places of what is handed in is not one in an answer.
func TestP1301SameMemoryTwice(t *testing.T) {
	star := of(6, of(4, a(), b()))
	rows, either := of(4, of(8, a()), star, star), of(5, star, of(4, a(), star))
	for _, x := range []api.Node{star, of(4, star, star), rows, either, of(4, rows, rows), of(4, either, either), times(rows, 2, 3), of(6, rows), of(7, of(4, either, star)), of(5, rows, of(8, rows), of(4, rows, star))} {
		for _, w := range []string{"", "a", "ab", "aba", "abab"} {
			y, wrong := Word(x, []byte(w))
			if wrong != api.OK || sample.Shared(x, y) && !sample.Shared(x) || sample.Shared(y) {
				t.Errorf("Word(%s, %q) = %s, %d shares memory", brief(x), w, brief(y), wrong)
			}
		}
	}
}

// Nil and empty ones mean the same, of words and of Kids.
func TestP1301Empty(t *testing.T) {
	for _, x := range append(sample.Things(), api.Node{}, of(6, ahead(2047))) {
		if nils, empty := asked(x, nil), asked(x, []byte{}); !nils.same(empty) {
			t.Errorf("of %s and nil is told %v, and of an empty word %v", brief(x), nils, empty)
		}
	}
	for _, kind := range []api.Kind{1, 2, 3} {
		x := api.Node{Kind: kind}
		y := x
		y.Kids = []api.Node{}
		for _, w := range []string{"", "a", "ab"} {
			holdModelled(t, y, w)
			holdModelled(t, of(5, y, of(4, y, y)), w)
			if !asked(x, []byte(w)).same(asked(y, []byte(w))) {
				t.Errorf("of kind %d and %q something else is told with empty Kids", kind, w)
			}
		}
	}
	for kind := api.Kind(0); kind <= api.KindRep; kind++ {
		if kind == 0 || kind > 3 {
			holdMayNot(t, api.Node{Kind: kind, Kids: []api.Node{}})
		}
	}
}

// What is told of one tree hangs on none that was asked ahead of it, or at the same time.
func TestP1301OneAnswerAndTheNext(t *testing.T) {
	t.Parallel()
	trees := slices.Concat(sample.Around(), kindsWithin(), sample.MayNot(), []api.Node{of(6, ahead(2047))})
	words := allWords("ab", 3)
	place := func(i int) (api.Node, []byte) { return trees[i%len(trees)], []byte(words[i%len(words)]) }
	var told []answer
	for i := range 2000 {
		told = append(told, asked(place(i)))
	}
	sample.AtOnce(len(told), func(at int) {
		if x, w := place(at); !asked(x, w).same(told[at]) {
			t.Errorf("at once is told of %s and %q what was not told of it ahead", brief(x), w)
		}
	})
}

// Trees and words of whatever there is: nothing panics, and what may not be is told so.
func TestP1301WhateverIsHandedIn(t *testing.T) {
	t.Parallel()
	next := sample.Chances()
	right, wrong := 0, 0
	for range 12000 {
		x := sample.Wild(next)
		w := anyWord(next(5), "aab\x00\xff\n", next)
		if tree.Right(x) {
			holdModelled(t, x, w)
			holdModelAtoms(t, x)
			right++
		} else {
			holdMayNot(t, x)
			wrong++
		}
		if t.Failed() {
			return
		}
	}
	if min(right, wrong) < 1500 {
		t.Errorf("%d trees may be, and %d may not", right, wrong)
	}
	ends := []int{math.MinInt, math.MinInt + 1, -1001, -2, -1, 0, 1, 2, 999, 1000, 1001, 1 << 40, math.MaxInt}
	for _, lo := range ends {
		for _, hi := range ends {
			for _, kid := range []api.Node{a(), of(8, a()), none(), {}} {
				x := times(kid, lo, hi)
				if tree.Right(x) {
					holdModelled(t, x, "a")
					holdModelled(t, x, "aa")
				} else {
					holdMayNot(t, x)
				}
			}
		}
	}
	for _, kind := range []api.Kind{math.MinInt, -1, 0, 10, 11, math.MaxInt} {
		holdMayNot(t, of(kind))
		holdMayNot(t, of(kind, a()))
		holdMayNot(t, of(6, of(4, a(), of(kind, a(), b()))))
	}
}

// Very long words of small trees, and very deep and wide trees that may not be.
func TestP1301LongAndDeep(t *testing.T) {
	t.Parallel()
	long := many(1<<18, "ab")
	holdSays(t, read("(ab)*"), long, true)
	holdSays(t, read("(ab)*"), long+"a", false)
	holdSays(t, read("[ab]*abab"), long[:1<<15], true)
	holdSays(t, read("x"), long, false)
	holdMayNot(t, sample.Within(1<<16, a(), func(x api.Node) api.Node { return times(x, 2, 3) }))
	// Both Kids of a node are one and the same memory: few nodes are made, and very many met.
	x := a()
	for n := 1; n < 40; n++ {
		if x = of(4, x, x); n < 12 {
			holdWord(t, x, "a", plain(t, of(4, append([]api.Node{e()}, again(1<<n-1, a())...)...)))
		} else {
			holdMayNot(t, x)
		}
	}
}

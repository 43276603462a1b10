package match

import (
	"bytes"
	"math"
	"slices"
	"testing"

	"doublet/api"
	"doublet/sample"
	"doublet/tree"
)

// answer: what all calls tell.
type answer struct {
	ends    []int
	wrong   api.Errno
	full    bool
	longest int
}

func asked(x api.Node, w []byte, at int) answer {
	ends, wrong := Ends(x, w, at)
	return answer{ends, wrong, Full(x, w), Longest(x, w, at)}
}

func (r answer) same(other answer) bool {
	return slices.Equal(r.ends, other.ends) && r.wrong == other.wrong && r.full == other.full && r.longest == other.longest
}

func TestP1101ArgumentsStay(t *testing.T) {
	next := sample.Chances()
	l := append(append(sample.Around(), sample.MayNot()...), sample.Things()...)
	for n := range 300 {
		l = append(l, sample.Grown(1+n%50, next), sample.Small(1+n%12, next), sample.Spoilt(sample.Grown(1+n%9, next), next))
	}
	for i, x := range l {
		given, w := sample.Roomy([]api.Node{x}), sample.RoomyText(anyWord(i%9, "aab", next))
		kept, word := sample.Dump(given), slices.Clone(w[:cap(w)])
		for _, at := range []int{-1, 0, len(w) / 2, len(w), len(w) + 1} {
			told := asked(given[0], w, at)
			if sample.Dump(given) != kept || !bytes.Equal(w[:cap(w)], word) {
				t.Errorf("what was handed in became %.300s and %q, and was %.300s and %q", sample.Dump(given), w[:cap(w)], kept, word)
			}
			// The room behind says nothing.
			if plain := asked(x, slices.Clip(slices.Clone(w)), at); !plain.same(told) {
				t.Errorf("of %s, %q and %d is told %v, and with room behind %v", brief(x), w, at, plain, told)
			}
		}
	}
}

// Nil and empty ones mean the same, of words, of Kids and of answers.
func TestP1101Empty(t *testing.T) {
	for _, x := range append(sample.Things(), none(), e(), api.Node{}) {
		for _, at := range []int{-1, 0, 1} {
			if none, empty := asked(x, nil, at), asked(x, []byte{}, at); !none.same(empty) {
				t.Errorf("of %s, nil and %d is told %v, and of an empty word %v", brief(x), at, none, empty)
			}
		}
	}
	for _, kind := range []api.Kind{1, 2, 3} {
		x := api.Node{Kind: kind}
		y := x
		y.Kids = []api.Node{}
		for _, w := range []string{"", "a"} {
			if nils, empty := asked(x, []byte(w), 0), asked(of(5, y, of(4, y, y)), []byte(w), 0); !nils.same(empty) {
				t.Errorf("of kind %d and %q is told %v, and with empty Kids %v", kind, w, nils, empty)
			}
		}
	}
	holdMayNot(t, api.Node{Kind: 4, Kids: []api.Node{}})
	holdMayNot(t, api.Node{})
}

func TestP1101NewMemory(t *testing.T) {
	for _, text := range []string{"", "a", "a*", "(a|ab)*", "a{2,3}|a{5}", ".*.*", "b"} {
		x, w := read(text), []byte("aabaaab")
		for at := range len(w) + 1 {
			first, _ := Ends(x, w, at)
			second, _ := Ends(x, w, at)
			kept := slices.Clone(second)
			room := first[:cap(first)]
			for i := range room {
				room[i] = -7
			}
			if !slices.Equal(second, kept) {
				t.Errorf("the answers of Ends(%s, %q, %d) share memory", text, w, at)
			}
			holdEnds(t, x, string(w), at, kept...)
		}
	}
}

// What is told of one tree hangs on none that was asked ahead of it, or at the same time.
func TestP1101OneAnswerAndTheNext(t *testing.T) {
	trees := append(append(sample.Around(), sample.Things()...), sample.MayNot()...)
	words := allWords("ab", 3)
	place := func(i int) (api.Node, []byte, int) {
		w := words[i%len(words)]
		return trees[i%len(trees)], []byte(w), i % (len(w) + 2)
	}
	var told []answer
	for i := range 3000 {
		told = append(told, asked(place(i)))
	}
	sample.AtOnce(len(told), func(at int) {
		if x, w, from := place(at); !asked(x, w, from).same(told[at]) {
			t.Errorf("at once is told of %s, %q and %d what was not told of it ahead", brief(x), w, from)
		}
	})
}

// Trees, words and places of whatever there is: nothing panics, and what is wrong is told so.
func TestP1101WhateverIsHandedIn(t *testing.T) {
	next := sample.Chances()
	var met [api.ErrState + 1]int
	for range 20000 {
		x := sample.Wild(next)
		w := anyWord([]int{next(7), next(20), 255, 256, 257, 1000}[next(200)/50+next(3)], "aab\x00\xff\n", next)
		at := []int{0, next(len(w) + 1), len(w), len(w) + 1, -1, next(300), math.MinInt, math.MaxInt}[next(8)]
		want := api.OK
		switch {
		case !tree.Right(x):
			want = api.ErrKind
		case len(w) > 256:
			want = api.ErrLong
		case at < 0 || at > len(w):
			want = api.ErrArg
		}
		met[want]++
		if want != api.OK {
			holdWrong(t, x, []byte(w), at, want)
			continue
		}
		l, wrong := Ends(x, []byte(w), at)
		if wrong != api.OK || len(l) > 0 && (l[0] < at || last(l) > len(w)) || Longest(x, []byte(w), at) != last(l) {
			t.Errorf("Ends(%s, %.60q (%d bytes), %d) = %v, %d", brief(x), w, len(w), at, l, wrong)
		}
		for i := range max(0, len(l)-1) {
			if l[i] >= l[i+1] {
				t.Errorf("Ends(%s, %.60q (%d bytes), %d) = %v", brief(x), w, len(w), at, l)
			}
		}
	}
	if min(met[api.OK], met[api.ErrKind], met[api.ErrLong], met[api.ErrArg]) < 1000 {
		t.Errorf("so often each error was met: %v", met)
	}
}

package deriv

import (
	"testing"

	"doublet/api"
	"doublet/match"
	"doublet/sample"
	"doublet/tree"
)

// holdSays: Says tells whether a word is said.
func holdSays(t *testing.T, x api.Node, w string, want bool) {
	t.Helper()
	if is, wrong := Says(x, []byte(w)); is != want || wrong != api.OK {
		t.Errorf("Says(%s, %.60q) = %t, %d", brief(x), w, is, wrong)
	}
}

// holdListed: of all words of a tree's list and of some others it is told whether they are in the list; behind a byte the rests of all words that begin with it are said, and no other ones.
func holdListed(t *testing.T, x api.Node, words []string, bytes string, most int) {
	t.Helper()
	l := sample.Words(x, most)
	for _, w := range words {
		holdSays(t, x, w, l.Has(w))
	}
	for i := range len(bytes) {
		y, wrong := By(x, bytes[i])
		if wrong != api.OK {
			t.Errorf("By(%s, %q) tells %d", brief(x), bytes[i], wrong)
		}
		rests := sample.Words(y, most-1)
		for n, some := range l {
			said := 0
			for w := range some {
				if n > 0 && w[0] == bytes[i] {
					said++
					if !rests.Has(w[1:]) {
						t.Errorf("By(%s, %q) = %s does not say %q", brief(x), bytes[i], brief(y), w[1:])
					}
				}
			}
			if n > 0 && len(rests[n-1]) != said {
				t.Errorf("By(%s, %q) = %s says %d words of %d bytes, want %d", brief(x), bytes[i], brief(y), len(rests[n-1]), n-1, said)
			}
		}
	}
}

// All trees of few nodes, and all words of a few bytes.
func TestP1305AllSmallTrees(t *testing.T) {
	t.Parallel()
	for _, some := range sample.SmallTrees() {
		words := allWords(some.Bytes, some.Most)
		for _, x := range some.Trees {
			holdListed(t, x, words, some.Bytes, some.Most)
			if t.Failed() {
				return
			}
		}
	}
}

func TestP1305RandomSmallTrees(t *testing.T) {
	t.Parallel()
	next := sample.Chances()
	words := allWords("abc", 4)
	for i := range 2500 {
		x := sample.Small(1+i%16, next)
		holdListed(t, x, append(words[:len(words):len(words)], anyWord(5, "ab", next), anyWord(5, "a", next)), "abc", 5)
		if t.Failed() {
			return
		}
	}
}

// Random trees, of all bytes and great numbers, and words that they say, with others ahead and behind, by package match: the whole word, and all rests of it by what stands behind their beginnings.
func TestP1305RandomTrees(t *testing.T) {
	t.Parallel()
	next := sample.Chances()
	said, not, big := 0, 0, 0
	for i := range 5000 {
		x, bytes := sample.Small(1+next(40), next), "abc"
		if i%2 == 0 {
			x, bytes = sample.Grown(1+next(40), next), "aaab\n\x00\x80\xff"
		}
		w, _ := spoken(x, 14, next)
		if next(3) == 0 {
			w += anyWord(next(3), bytes, next)
		}
		if next(6) == 0 {
			w = anyWord(1, bytes, next) + w
		}
		want := match.Full(x, []byte(w))
		if want {
			said++
		} else {
			not++
		}
		for cut := range len(w) + 1 {
			y, wrong := Word(x, []byte(w[:cut]))
			if wrong == api.ErrBig {
				big++
				holdWrong(t, x, w, api.ErrBig)
				break
			}
			if rest := []byte(w[cut:]); match.Full(y, rest) != want || wrong != api.OK {
				t.Errorf("%s says %q: %t; and %s, behind %q: %t", brief(x), w, want, brief(y), w[:cut], !want)
			}
			if is, wrong := Says(y, []byte(w[cut:])); wrong == api.OK && is != want {
				t.Errorf("%s says %q: %t; and of %s, behind %q, Says tells %t", brief(x), w, want, brief(y), w[:cut], is)
			}
			if cut == len(w) {
				holdSays(t, x, w, want)
			}
		}
		if t.Failed() {
			return
		}
	}
	if min(said, not) < 1000 || big > 500 {
		t.Errorf("%d words were said, %d were not, of %d there was no room", said, not, big)
	}
}

// Words as long as package match takes them.
func TestP1305LongWords(t *testing.T) {
	t.Parallel()
	next := sample.Chances()
	said := 0
	for i := range 150 {
		x := of(6, sample.Small(2+next(14), next))
		w := ""
		for range 256 {
			v, _ := spoken(x, 256-len(w), next)
			w += v
		}
		if i%3 == 0 {
			w = w[:len(w)*next(8)/8] + anyWord(min(1, 256-len(w)), "abc", next)
		}
		want := match.Full(x, []byte(w))
		if is, wrong := Says(x, []byte(w)); wrong != api.ErrBig && (is != want || wrong != api.OK) {
			t.Errorf("Says(%s, %.60q) = %t, %d", brief(x), w, is, wrong)
		} else if is && len(w) > 100 {
			said++
		}
	}
	if said < 30 {
		t.Errorf("only %d long words were said", said)
	}
	for _, text := range []string{"(a|bb|aba)*", "(a{2,3}b?)+", "((ab?)*a){5,}", "(.*ab){2}.*", "(a+b+){3,9}"} {
		x := read(text)
		for range 20 {
			w := anyWord(256, "aaab", next)
			holdSays(t, x, w, match.Full(x, []byte(w)))
		}
	}
}

// One byte after the other, or all at once: it is the same.
func TestP1303ByByteAfterByte(t *testing.T) {
	t.Parallel()
	next := sample.Chances()
	for range 3000 {
		x := sample.Small(1+next(30), next)
		w, _ := spoken(x, 8, next)
		w += anyWord(1, "abc", next)
		y, wrong := Word(x, nil)
		for i := range len(w) {
			if wrong == api.OK {
				y, wrong = By(y, w[i])
			}
		}
		whole, also := Word(x, []byte(w))
		if wrong != also || !tree.Same(y, whole) {
			t.Errorf("behind %q in %s stands %s (%d), and byte after byte %s (%d)", w, brief(x), brief(whole), also, brief(y), wrong)
		}
		cut := next(len(w) + 1)
		half, wrong := Word(x, []byte(w[:cut]))
		if wrong == api.OK {
			half, wrong = Word(half, []byte(w[cut:]))
		}
		if wrong != also || !tree.Same(half, whole) {
			t.Errorf("behind %q in %s stands %s (%d), and in two parts %s (%d)", w, brief(x), brief(whole), also, brief(half), wrong)
		}
	}
}

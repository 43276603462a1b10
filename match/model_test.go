package match

import (
	"slices"
	"testing"

	"doublet/api"
	"doublet/sample"
	"doublet/sets"
)

// holdListed: all calls, by the list of a tree's words, for words of up to most bytes.
func holdListed(t *testing.T, x api.Node, words []string, most int) {
	t.Helper()
	l := sample.Words(x, most)
	for _, w := range words {
		holdAll(t, x, w, func(from, to int) bool { return l.Has(w[from:to]) })
	}
}

// spans: which pieces of a word, by where they begin and end, a tree says.
type spans [][]bool

// spansIf: the pieces of which it is told so; places are below n.
func spansIf(n int, says func(from, to int) bool) spans {
	s := make(spans, n)
	for from := range s {
		s[from] = make([]bool, n)
		for to := from; to < n; to++ {
			s[from][to] = says(from, to)
		}
	}
	return s
}

// then: pieces that can be cut into one of s and one of others.
func (s spans) then(others spans) spans {
	return spansIf(len(s), func(from, to int) bool {
		for cut := from; cut <= to; cut++ {
			if s[from][cut] && others[cut][to] {
				return true
			}
		}
		return false
	})
}

func (s spans) or(others spans) spans {
	return spansIf(len(s), func(from, to int) bool { return s[from][to] || others[from][to] })
}

// forever: pieces that can be cut into any number of those of s.
func (s spans) forever() spans {
	made := spansIf(len(s), func(from, to int) bool { return from == to })
	for from := len(s) - 1; from >= 0; from-- {
		for to := from + 1; to < len(s); to++ {
			for cut := from + 1; cut <= to; cut++ {
				made[from][to] = made[from][to] || s[from][cut] && made[cut][to]
			}
		}
	}
	return made
}

// repeated: pieces that can be cut into from lo to hi of those of s.
func (s spans) repeated(lo, hi int) spans {
	some := spansIf(len(s), func(from, to int) bool { return from == to })
	made := spansIf(len(s), func(from, to int) bool { return false })
	for n := 0; n <= max(lo, hi); n++ {
		next := some.then(s)
		still := slices.EqualFunc(next, some, slices.Equal[[]bool])
		if n >= lo || still {
			made = made.or(some)
		}
		if still {
			// So it is with all that follow.
			break
		}
		some = next
	}
	if hi == -1 {
		return made.then(s.forever())
	}
	return made
}

// cuts: which pieces of a word a tree says, kind by kind.
func cuts(x api.Node, w string) spans {
	n := len(w) + 1
	var kids []spans
	for _, kid := range x.Kids {
		kids = append(kids, cuts(kid, w))
	}
	made := spansIf(n, func(from, to int) bool { return x.Kind == 2 && from == to })
	switch x.Kind {
	case 3:
		return spansIf(n, func(from, to int) bool { return to == from+1 && sets.Has(x.Set, w[from]) })
	case 4:
		made = kids[0]
		for _, kid := range kids[1:] {
			made = made.then(kid)
		}
	case 5:
		for _, kid := range kids {
			made = made.or(kid)
		}
	case 6:
		return kids[0].forever()
	case 7:
		return kids[0].then(kids[0].forever())
	case 8:
		return kids[0].repeated(0, 1)
	case 9:
		return kids[0].repeated(x.Lo, x.Hi)
	}
	return made
}

// holdCuts: all calls, by the pieces of a word that a tree says.
func holdCuts(t *testing.T, x api.Node, w string) {
	t.Helper()
	l := cuts(x, w)
	holdAll(t, x, w, func(from, to int) bool { return l[from][to] })
}

// The one model, by the other one.
func TestModels(t *testing.T) {
	next := sample.Chances()
	said, words := 0, allWords("abc", 4)
	for i := range 600 {
		x := sample.Small(1+i%14, next)
		l := sample.Words(x, 4)
		for _, w := range words {
			if got := cuts(x, w)[0][len(w)]; got != l.Has(w) {
				t.Errorf("cuts of %s and %q has %t", brief(x), w, got)
			}
			if l.Has(w) {
				said++
			}
		}
	}
	if said < 5000 {
		t.Errorf("only %d words were said", said)
	}
}

// All trees of few nodes, and all words of a few bytes.
func TestP1102AllSmallTrees(t *testing.T) {
	t.Parallel()
	for _, some := range sample.SmallTrees() {
		words := allWords(some.Bytes, some.Most)
		for _, x := range some.Trees {
			holdListed(t, x, words, some.Most)
			if t.Failed() {
				return
			}
		}
	}
}

func TestP1102RandomSmallTrees(t *testing.T) {
	t.Parallel()
	next := sample.Chances()
	words := allWords("abc", 3)
	for i := range 3000 {
		x := sample.Small(1+i%16, next)
		l := append(slices.Clone(words), anyWord(4, "abc", next), anyWord(5, "ab", next), anyWord(5, "a", next))
		holdListed(t, x, l, 5)
		if t.Failed() {
			return
		}
	}
}

// Random trees of many nodes, of all bytes and great numbers; words that they say, with others ahead and behind.
func TestP1102RandomTrees(t *testing.T) {
	t.Parallel()
	next := sample.Chances()
	ends, found := 0, 0
	for i := range 4000 {
		x, bytes := sample.Small(1+next(40), next), "abc"
		if i%2 == 0 {
			x, bytes = sample.Grown(1+next(30), next), "aaab\n\x00\x80\xff"
		}
		w := anyWord(next(9), bytes, next)
		at := len(w)
		v, ok := spoken(x, 18, next)
		w += v + anyWord(next(6), bytes, next)
		holdCuts(t, x, w)
		if t.Failed() {
			return
		}
		if l, _ := Ends(x, []byte(w), at); ok {
			found++
			ends += len(l)
			if !slices.Contains(l, at+len(v)) {
				t.Errorf("of %s and %q Ends of %d has no %d", brief(x), w, at, at+len(v))
			}
		}
	}
	if found < 1500 || ends < 2*found {
		t.Errorf("%d trees said a word, with %d ends", found, ends)
	}
}

// Long words, up to the longest ones, and trees that say such.
func TestP1102LongWords(t *testing.T) {
	t.Parallel()
	next := sample.Chances()
	long := 0
	for i := 0; i < 120; i++ {
		x := of(6, sample.Small(2+next(20), next))
		n := []int{60, 63, 64, 65, 127, 128, 129, 130}[i%8]
		w := ""
		for range n {
			v, _ := spoken(x, n-len(w), next)
			w += v
		}
		w += anyWord(n-len(w), "ab", next)
		holdCuts(t, x, w)
		if l, _ := Ends(x, []byte(w), 0); last(l) > 50 {
			long++
		}
		if t.Failed() {
			return
		}
	}
	if long < 20 {
		t.Errorf("only %d words were said far on", long)
	}
	for _, text := range []string{"(a|bb|aba)*", "(a{2,3}b?)+", "((ab?)*a){5,}", "(.*ab){2}.*", "(a+b+){3,9}"} {
		holdCuts(t, read(text), anyWord(256, "aaab", next))
	}
}

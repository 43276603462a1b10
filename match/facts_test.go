package match

import (
	"testing"

	"doublet/api"
	"doublet/facts"
	"doublet/sample"
	"doublet/sets"
)

// reach: trees by the length up to which all their words are asked.
const reach = 4

// saidOf: all words of a, b and c, of up to so many bytes, that a tree says.
func saidOf(x api.Node, words []string) []string {
	var l []string
	for _, w := range words {
		if Full(x, []byte(w)) {
			l = append(l, w)
		}
	}
	return l
}

// Trees of a, b and c alone: all their words of a few bytes.
func TestP1104Facts(t *testing.T) {
	t.Parallel()
	next := sample.Chances()
	words := allWords("abc", reach)
	hollow, nullable, least := 0, 0, 0
	for i := range 2500 {
		x := sample.Small(1+i%20, next)
		l := saidOf(x, words)
		if (len(l) > 0 && l[0] == "") != facts.Nullable(x) {
			t.Errorf("%s says the empty word: %t", brief(x), !facts.Nullable(x))
		}
		shortest := facts.Shortest(x)
		switch {
		case facts.Hollow(x):
			hollow++
			if len(l) > 0 {
				t.Errorf("%s says %q, and is Hollow", brief(x), l[0])
			}
		case shortest == 0:
			nullable++
		}
		// allWords are ordered.
		if w, ok := facts.Least(x, reach); ok != (len(l) > 0) || ok && string(w) != l[0] {
			t.Errorf("of %s the least word is %q, %t, and %q are said", brief(x), w, ok, l)
		}
		if shortest > reach {
			w, ok := facts.Least(x, Most)
			holdLeast(t, x, string(w), ok)
			least++
		}
		holdEdges(t, x, l)
		if t.Failed() {
			return
		}
	}
	if min(hollow, nullable) < 200 || least < 20 {
		t.Errorf("%d trees are hollow, %d nullable, of %d the least word is long", hollow, nullable, least)
	}
}

// holdLeast: the least word is said, none that is shorter, and none that has a lesser byte.
func holdLeast(t *testing.T, x api.Node, w string, ok bool) {
	t.Helper()
	if !ok {
		return
	}
	if !Full(x, []byte(w)) {
		t.Errorf("%s does not say its least word %.60q", brief(x), w)
	}
	for cut := range len(w) {
		if Full(x, []byte(w[:cut])) {
			t.Errorf("of %s the least word is %.60q, and it says %.60q", brief(x), w, w[:cut])
		}
		for c := byte('a'); c < w[cut]; c++ {
			if v := w[:cut] + string([]byte{c}) + w[cut+1:]; Full(x, []byte(v)) {
				t.Errorf("of %s the least word is %.60q, and it says %.60q", brief(x), w, v)
			}
		}
	}
}

// holdEdges: the words that are said begin and end as facts tells, and are as long; each byte begins and ends some, if there are short ones.
func holdEdges(t *testing.T, x api.Node, l []string) {
	t.Helper()
	first, last := facts.First(x), facts.Last(x)
	var begin, end api.Set
	for _, w := range l {
		if facts.Bounded(x) && len(w) > facts.Longest(x) || len(w) < facts.Shortest(x) {
			t.Errorf("%s says %q, which is as long as none of its words", brief(x), w)
		}
		if w == "" {
			continue
		}
		begin, end = sets.Union(begin, sets.Of(w[0])), sets.Union(end, sets.Of(w[len(w)-1]))
	}
	if sets.Less(begin, first) != (api.Set{}) || sets.Less(end, last) != (api.Set{}) {
		t.Errorf("words of %s begin with %q and end with %q", brief(x), sets.Bytes(begin), sets.Bytes(end))
	}
	if facts.Bounded(x) && facts.Longest(x) <= reach && (begin != first || end != last) {
		t.Errorf("words of %s begin with %q alone, and end with %q", brief(x), sets.Bytes(begin), sets.Bytes(end))
	}
	if n := facts.Longest(x); n >= 0 && n <= reach && len(l[len(l)-1]) != n {
		t.Errorf("%s says no word of %d bytes", brief(x), n)
	}
}

// Trees of many nodes, all bytes and great numbers: the empty word, the least one, and words that go on.
func TestP1104FactsOfLongWords(t *testing.T) {
	t.Parallel()
	next := sample.Chances()
	words, edges := 0, 0
	for range 6000 {
		x := sample.Grown(1+next(40), next)
		if got := Full(x, nil); got != facts.Nullable(x) {
			t.Errorf("%s says the empty word: %t", brief(x), got)
		}
		w, ok := facts.Least(x, Most)
		if ok {
			words++
			if l, _ := Ends(x, w, 0); len(l) != 1 || l[0] != len(w) {
				t.Errorf("of %s the least word is %.60q, and its Ends are %v", brief(x), w, l)
			}
		}
		for range 3 {
			v, ok := spoken(x, 60, next)
			if !ok {
				continue
			}
			if !Full(x, []byte(v)) || len(v) < facts.Shortest(x) || facts.Bounded(x) && len(v) > facts.Longest(x) {
				t.Errorf("%s does not say %q", brief(x), v)
			}
			if v != "" {
				edges++
				if !sets.Has(facts.First(x), v[0]) || !sets.Has(facts.Last(x), v[len(v)-1]) {
					t.Errorf("%s says %q", brief(x), v)
				}
			}
		}
		if t.Failed() {
			return
		}
	}
	if min(words, edges) < 1000 {
		t.Errorf("%d trees had a least word, and %d words edges", words, edges)
	}
}

// Each byte that begins a word begins one: with it, what is behind can be said; and so at the end.
func TestP1104FirstAndLast(t *testing.T) {
	for _, r := range []struct {
		x           api.Node
		front, back string
	}{
		{of(4, leaf(0, 7, 255), b()), "", "b"}, {of(4, of(8, leaf('x')), leaf(0, 10, 'x', 255), of(6, b())), "", "bb"}, {of(6, of(4, leaf(3, 4), of(8, a()))), "", "a"},
		{of(5, of(4, leaf(200), a(), a()), of(4, leaf(201), a(), a())), "", "aa"},
	} {
		first := facts.First(r.x)
		for n := range 256 {
			if got := Full(r.x, []byte(r.front+string([]byte{byte(n)})+r.back)); got != sets.Has(first, byte(n)) {
				t.Errorf("%s says a word that begins with %d: %t", brief(r.x), n, got)
			}
		}
	}
	for _, r := range []struct {
		x     api.Node
		front string
	}{
		{of(4, b(), leaf(0, 7, 255)), "b"}, {of(4, of(6, b()), leaf(0, 10, 255), of(8, leaf(0))), "bb"}, {rep(of(4, of(8, a()), leaf(3, 4)), 2, 3), "a\x03a"},
	} {
		last := facts.Last(r.x)
		for n := range 256 {
			if got := Full(r.x, []byte(r.front+string([]byte{byte(n)}))); got != sets.Has(last, byte(n)) {
				t.Errorf("%s says a word that ends with %d: %t", brief(r.x), n, got)
			}
		}
	}
}

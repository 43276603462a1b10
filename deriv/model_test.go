package deriv

import (
	"slices"
	"testing"

	"doublet/api"
	"doublet/sample"
	"doublet/sets"
	"doublet/simple"
	"doublet/tree"
)

// sentence: what stands behind a byte in a simple tree, as the chapter's sentence for its kind says it; nothing of it is made simple yet.
func sentence(x api.Node, letter byte) api.Node {
	switch x.Kind {
	case 3:
		if slices.Contains(sets.Bytes(x.Set), letter) {
			return e()
		}
	case 4:
		all, ahead := of(5), 0
		for i, kid := range x.Kids {
			if ahead == i {
				all.Kids = append(all.Kids, of(4, sentence(kid, letter), of(4, x.Kids[i+1:]...)))
			}
			if ahead == i && empty(kid) {
				ahead++
			}
		}
		return all
	case 5:
		all := of(5)
		for _, kid := range x.Kids {
			all.Kids = append(all.Kids, sentence(kid, letter))
		}
		return all
	case 6, 7:
		return of(4, sentence(x.Kids[0], letter), of(6, x.Kids[0]))
	case 8:
		return sentence(x.Kids[0], letter)
	case 9:
		less := times(x.Kids[0], max(0, x.Lo-1), x.Hi-1)
		if x.Hi == -1 {
			less.Hi = -1
		}
		return of(4, sentence(x.Kids[0], letter), less)
	}
	return none()
}

// simplest: a tree made by the calls of package simple from the leaves up, however many nodes it has.
func simplest(x api.Node) api.Node {
	var kids []api.Node
	for _, kid := range x.Kids {
		kids = append(kids, simplest(kid))
	}
	switch x.Kind {
	case 4:
		return simple.Cat(kids...)
	case 5:
		return simple.Alt(kids...)
	case 6:
		return simple.Star(kids[0])
	case 7:
		return simple.Plus(kids[0])
	case 8:
		return simple.Opt(kids[0])
	case 9:
		return simple.Rep(kids[0], x.Lo, x.Hi)
	}
	return x
}

// modelled: what is behind a word in a tree that may be, and whether all there has room on the way.
func modelled(t *testing.T, x api.Node, w string) (api.Node, bool) {
	t.Helper()
	y := plain(t, x)
	for i := range len(w) {
		if y = simplest(sentence(y, w[i])); tree.Size(y) > 4096 {
			return y, false
		}
	}
	return y, true
}

// holdModelled: all calls, by the model. Is there room, and does something stand behind the word?
func holdModelled(t *testing.T, x api.Node, w string) (fits, more bool) {
	t.Helper()
	want, fits := modelled(t, x, w)
	if !fits {
		holdWrong(t, x, w, api.ErrBig)
		return false, false
	}
	holdWord(t, x, w, want)
	return true, want.Kind != 1
}

// The model makes trees simple as package simple does; of these it makes nothing else.
func TestModel(t *testing.T) {
	next := sample.Chances()
	for range 2000 {
		x := sample.Small(1+next(30), next)
		y := plain(t, x)
		if got := simplest(y); !tree.Same(got, y) {
			t.Errorf("simplest of %s is %s", brief(y), brief(got))
		}
		raw := sentence(y, 'a')
		if want, _ := modelled(t, x, "a"); !tree.Same(want, plain(t, want)) {
			t.Errorf("of %s comes %s, which is not simple, by %v", brief(x), brief(want), raw)
		}
	}
	for _, r := range [][3]string{{"(ab){2,3}", "a", "b(ab){1,2}"}, {"(a|b)*c", "c", ""}, {"a?a?", "a", "a?|"}, {"a{0,2}", "aa", ""}} {
		if got, fits := modelled(t, read(r[0]), r[1]); !tree.Same(got, read(r[2])) || !fits {
			t.Errorf("of %s and %s comes %s", r[0], r[1], brief(got))
		}
	}
}

// kindsWithin: trees of each kind, of such as say the empty word and such as don't, with an a ahead and without.
func kindsWithin() []api.Node {
	l := sample.Things()
	for _, text := range []string{"ab", "ba", "a?b*", "b*a?", "aa", "a?ab", "ab|ac", "ab|b*", "a*|ab|", "c|ca", "(ab)*", "(a*b*)*", "(ab|)*", "(ab)+", "(a?b)+", "(ab|)+", "(ab)?", "(ab|ac)?", "(ab){2,3}", "(a?b?){2}", "(ab|){0,2}", "(a*){2,}", "a{1000}", "a{3,1000}", "[^a]", "."} {
		l = append(l, read(text))
	}
	return l
}

// Each kind as the first, a middle and the last kid of each other one.
func TestP1302EachKindWithinEach(t *testing.T) {
	t.Parallel()
	pairs := [][2]api.Node{{b(), c()}, {of(8, a()), of(6, b())}, {of(6, a()), b()}, {c(), of(8, a())}, {of(4, a(), b()), of(4, a(), c())}}
	for _, x := range kindsWithin() {
		l := append(sample.Above(x), times(x, 1, 1000), times(x, 1000, -1), times(times(x, 2, 3), 0, 2), of(6, of(5, x, e())), of(7, of(4, x, x)))
		for _, pair := range pairs {
			y, z := pair[0], pair[1]
			for _, kind := range []api.Kind{4, 5} {
				l = append(l, of(kind, x, y, z), of(kind, y, x, z), of(kind, y, z, x), of(kind, x, x, y), of(kind, z, of(9-kind, x, y), x))
			}
		}
		for _, y := range l {
			for _, w := range []string{"a", "b", "c", "x", "\x00", "\xff", "ab"} {
				holdModelled(t, y, w)
			}
		}
		if t.Failed() {
			return
		}
	}
}

// All trees of up to four nodes, and of up to five and six, these of fewer leaves and numbers.
func TestP1302AllSmallTrees(t *testing.T) {
	t.Parallel()
	ends := [][2]int{{0, 0}, {0, -1}, {1, -1}, {2, -1}, {0, 1}, {0, 2}, {1, 1}, {1, 2}, {2, 2}, {3, 4}}
	met, left := 0, 0
	for _, some := range []struct {
		trees [][]api.Node
		words []string
	}{
		{sample.Every(3, []api.Node{none(), e(), hole(), a(), b(), leaf('a', 'c')}, ends...), allWords("abcx", 3)},
		{sample.Every(4, []api.Node{none(), e(), a(), b(), leaf('a', 'c')}, ends...), []string{"", "a", "b", "aa", "ab"}},
		{sample.Every(5, []api.Node{e(), a(), b()}, [2]int{2, -1}, [2]int{0, 2}), []string{"a", "ba"}},
		{sample.Every(6, []api.Node{e(), a()}, [2]int{2, 3}), []string{"a", "aa"}},
	} {
		for _, x := range slices.Concat(some.trees...) {
			for _, w := range some.words {
				met++
				if _, more := holdModelled(t, x, w); more {
					left++
				}
			}
			if t.Failed() {
				return
			}
		}
	}
	if met < 100000 || left < 20000 {
		t.Errorf("%d words were met, behind %d something stood", met, left)
	}
}

// Random trees and words: such as they say, such as go on, and others.
func TestP1302RandomTrees(t *testing.T) {
	t.Parallel()
	next := sample.Chances()
	left := 0
	for i := range 12000 {
		x, bytes := sample.Small(1+next(40), next), "abc"
		if i%3 == 0 {
			x, bytes = sample.Grown(1+next(40), next), "aaab\n\x00\x80\xff"
		}
		w, _ := spoken(x, 6, next)
		w += anyWord(next(3), bytes, next)
		if _, more := holdModelled(t, x, w); more {
			left++
		}
		if t.Failed() {
			return
		}
	}
	if left < 3000 {
		t.Errorf("behind %d words something stood", left)
	}
}

// Trees of many nodes, with words of few bytes, that grow till there is no room.
func TestP1303RandomGreatTrees(t *testing.T) {
	t.Parallel()
	next := sample.Chances()
	big, left := 0, 0
	for i := range 160 {
		x := sample.Small(60+next(400), next)
		if i%2 == 0 {
			x = sample.Grown(60+next(400), next)
		}
		switch i % 8 {
		case 1:
			x = sample.Small(1000+next(3000), next)
		case 3, 5, 7:
			// Each byte may be one of many of these, so that what is behind it soon has no room.
			x = of(4)
			for range 20 + next(60) {
				x.Kids = append(x.Kids, of(api.Kind(6+next(2)*2), sample.Small(1+next(9), next)))
			}
		}
		w, _ := spoken(x, 3, next)
		w += anyWord(1, "ab", next)
		fits, more := holdModelled(t, x, w)
		if more {
			left++
		}
		if !fits {
			big++
		}
		if t.Failed() {
			return
		}
	}
	if big < 5 || left < 60 {
		t.Errorf("%d were too big, behind %d words something stood", big, left)
	}
}

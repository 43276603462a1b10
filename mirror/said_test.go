package mirror

import (
	"slices"
	"testing"

	"doublet/api"
	"doublet/closure"
	"doublet/match"
	"doublet/nfa"
	"doublet/sample"
	"doublet/texts"
)

// holdSaid: a tree that was turned round says a word, turned round, just where the tree says it. It tells whether it does.
func holdSaid(t *testing.T, x, turned api.Node, w string) bool {
	t.Helper()
	want := match.Full(x, []byte(w))
	if got := match.Full(turned, Word([]byte(w))); got != want {
		t.Errorf("%s says %q: %t; Tree of it, %s, says it, turned round: %t", brief(x), w, want, brief(turned), got)
	}
	return want
}

// The chapter's example, and others that are written out.
func TestP1804TreeWrittenOut(t *testing.T) {
	for _, r := range []struct {
		text      string
		said, not []string
	}{
		{"a(bc)", []string{"cba"}, []string{"abc", "bca", "", "cb"}},
		{"ab*", []string{"a", "ba", "bbba"}, []string{"ab", "b", ""}},
		{"(ab|c){2,3}d?", []string{"baba", "dcc", "cbac", "dbacc"}, []string{"abab", "ccd", "dc", "dcccc"}},
		{"a+b+|", []string{"", "ba", "bbaa"}, []string{"ab", "a", "b"}},
		{"(a(b(cd)?)?)?", []string{"", "a", "ba", "dcba"}, []string{"ab", "cdba", "abcd"}},
		{texts.Nothing, nil, []string{"", "a"}},
		{"", []string{""}, []string{"a"}},
		{"\\x00[^a]\\xff", []string{"\xff\x00\x00", "\xffb\x00"}, []string{"\x00b\xff", "\xffa\x00"}},
	} {
		x := Tree(read(r.text))
		for _, w := range r.said {
			if !match.Full(x, []byte(w)) || !holdSaid(t, read(r.text), x, reversed(w)) {
				t.Errorf("Tree(%s) does not say %q", r.text, w)
			}
		}
		for _, w := range r.not {
			if match.Full(x, []byte(w)) || holdSaid(t, read(r.text), x, reversed(w)) {
				t.Errorf("Tree(%s) says %q", r.text, w)
			}
		}
	}
}

// All trees of up to three, four and five nodes, the greater ones of fewer leaves and numbers.
func TestP1804TreeAllSmall(t *testing.T) {
	t.Parallel()
	for _, some := range sample.SmallTrees() {
		words := sample.AllWords(some.Bytes, some.Most)
		for _, x := range some.Trees {
			turned := Tree(x)
			holdTree(t, Tree(turned), x, "Tree, twice, of %s", brief(x))
			for _, w := range words {
				holdSaid(t, x, turned, w)
			}
			if t.Failed() {
				return
			}
		}
	}
}

// Each kind within each other, and rows within them.
func TestP1804TreeKindsWithinEachOther(t *testing.T) {
	t.Parallel()
	words := append(sample.AllWords("abc", 2), "abc", "cba", "bac", "aab", "baa", "abab", "aabb", "bbaa", "abcabc", "aaaaa")
	said := 0
	for _, x := range sample.Things() {
		l := append(sample.Above(x), of(4, x, b()), of(4, a(), x, c()), of(5, of(4, a(), b()), x), of(4, of(4, a(), x), of(5, x, b())))
		for _, y := range l {
			for _, z := range append(sample.Above(y), y, of(4, y, c()), of(4, a(), y, x), of(5, of(4, c(), y), a())) {
				turned := Tree(z)
				for _, w := range words {
					if holdSaid(t, z, turned, w) {
						said++
					}
				}
			}
		}
		if t.Failed() {
			return
		}
	}
	if said < 10000 {
		t.Errorf("only %d words were said", said)
	}
}

// Random trees, and words: short ones, random ones, and such as they say.
func TestP1804TreeRandom(t *testing.T) {
	t.Parallel()
	next := sample.Chances()
	short := sample.AllWords("abc", 3)
	met := map[bool]int{}
	for i := range 4000 {
		x := sample.Small(1+next(25), next)
		if i%4 == 0 {
			x = sample.Grown(1+next(30), next)
		}
		turned := Tree(x)
		words := []string{short[next(len(short))], short[next(len(short))], sample.AnyWord(next(9), "abc", next), sample.AnyWord(next(9), "aab\n\x00\xff", next)}
		if w, ok := sample.Spoken(x, 60, next); ok {
			words = append(words, w, w+"a", reversed(w), w[:len(w)/2])
		}
		for _, w := range words {
			met[holdSaid(t, x, turned, w)]++
		}
		if t.Failed() {
			return
		}
	}
	if min(met[true], met[false]) < 2000 {
		t.Errorf("so many words were said, and were not: %v", met)
	}
}

// holdTold: what Nfa makes of a machine and a label tells 1 of a word, turned round, just where the label is one of its labels behind it; else it tells none. It tells which labels there are.
func holdTold(t *testing.T, n api.Nfa, at *closure.Machine, label int, turned *closure.Machine, w string) []int {
	t.Helper()
	labels := at.Labels(at.Run([]byte(w)))
	want := 0
	if slices.Contains(labels, label) {
		want = 1
	}
	if got := turned.Tell([]byte(reversed(w))); got != want {
		t.Errorf("of %s the labels behind %q are %v, and turned round, for %d, %d is told", front(shown(n)), w, labels, label, got)
	}
	return labels
}

// atWork: a machine that may be.
func atWork(t *testing.T, n api.Nfa) *closure.Machine {
	t.Helper()
	m, wrong := closure.New(n)
	if wrong != api.OK {
		t.Fatalf("closure.New of %s tells %d", front(shown(n)), wrong)
	}
	return m
}

// holdAllTold: for each label that there may be, of each word. It tells how often labels were behind a word, by how many there were.
func holdAllTold(t *testing.T, n api.Nfa, words []string) (met [3]int) {
	t.Helper()
	at := atWork(t, n)
	for label := 1; label <= 64; label++ {
		if label > 8 && label < 63 && !slices.Contains(n.Accept, label) {
			continue
		}
		m := atWork(t, turned(t, n, label))
		for _, w := range words {
			met[min(2, len(holdTold(t, n, at, label, m, w)))]++
		}
		if t.Failed() {
			return met
		}
	}
	return met
}

// All trees of up to three nodes, several in a machine, and each one of those of more in one of its own.
func TestP1804NfaSmallTrees(t *testing.T) {
	t.Parallel()
	place := 0
	for i, some := range sample.SmallTrees() {
		words := sample.AllWords(some.Bytes, min(3, some.Most))
		together := 8
		if i > 1 {
			together = 64
		}
		for l := range slices.Chunk(some.Trees, together) {
			n, wrong := nfa.Of(l)
			if wrong != api.OK {
				t.Fatalf("%s have no machine: %d", texts.Several(l), wrong)
			}
			// Of many trees each label would take its time.
			place += 7
			label := 1 + place%len(l)
			m, at := atWork(t, turned(t, n, label)), atWork(t, n)
			for _, w := range words {
				holdTold(t, n, at, label, m, w)
				if labels := at.Labels(at.Run([]byte(w))); slices.Contains(labels, label) != match.Full(Tree(l[label-1]), []byte(reversed(w))) {
					t.Errorf("of %q the machine and the tree %s tell two things", w, brief(l[label-1]))
				}
			}
			if i == 0 {
				holdAllTold(t, n, words)
			}
			if t.Failed() {
				return
			}
		}
	}
}

// Each kind within each other, repeats, such as say the empty word, or none.
func TestP1804NfaKindsWithinEachOther(t *testing.T) {
	t.Parallel()
	words := append(sample.AllWords("abc", 3), "abab", "baba", "aabb", "bbaa", "aaaaa", "abbbbb")
	for _, x := range sample.Things() {
		l := append(sample.Above(x), of(4, x, b()), of(5, of(4, a(), b()), x), of(4, of(4, a(), x), of(5, x, b())), of(6, of(4, x, c())), x)
		n, wrong := nfa.Of(l)
		if wrong != api.OK {
			t.Fatalf("%s have no machine: %d", texts.Several(l), wrong)
		}
		if holdAllTold(t, n, words); t.Failed() {
			return
		}
	}
}

// Random machines, also such as no trees make; all labels, all short words of few bytes, and random ones.
func TestP1804NfaRandomMachines(t *testing.T) {
	t.Parallel()
	next := sample.Chances()
	short := sample.AllWords("ab", 3)
	var met [3]int
	for i := range 1500 {
		n := sample.AnyMachine(1+next(14), next)
		if i%4 > 0 {
			// With fewer labels and bytes more words lead to a label, and several states have the same one.
			for i := range n.Accept {
				n.Accept[i] = next(4)
			}
			for i := range n.Edges {
				n.Edges[i].Set = sample.Leaf("aab"[next(3)], "abb"[next(3)]).Set
			}
			n.Links = n.Links[:len(n.Links)/(1+next(4))]
		}
		words := append(slices.Clone(short), sample.AnyWord(next(9), "ab", next), sample.AnyWord(next(9), sample.Edgy, next))
		for i, more := range holdAllTold(t, n, words) {
			met[i] += more
		}
		if t.Failed() {
			return
		}
	}
	if slices.Min(met[:]) < 10000 {
		t.Errorf("so often so many labels were behind a word: %v", met)
	}
}

// Random trees, several in a machine, and words that they say.
func TestP1804NfaRandomTrees(t *testing.T) {
	t.Parallel()
	next := sample.Chances()
	met := map[bool]int{}
	for range 1200 {
		l := append(sample.SomeTrees(6, next), a())
		n, wrong := nfa.Of(l)
		// Trees of great numbers may take too many states, or many.
		if wrong != api.OK || n.States > 3000 {
			continue
		}
		at, whole := atWork(t, n), []string{"", "a", sample.AnyWord(next(9), "abc", next)}
		for _, x := range l {
			if w, ok := sample.Spoken(x, 30, next); ok {
				whole = append(whole, w, w+"a", w[:len(w)/2])
			}
		}
		for i, x := range l {
			m := atWork(t, turned(t, n, i+1))
			for _, w := range whole {
				told := slices.Contains(holdTold(t, n, at, i+1, m, w), i+1)
				if met[told]++; told != match.Full(x, []byte(w)) {
					t.Errorf("%s and its machine tell two things of %q", brief(x), w)
				}
			}
		}
		if t.Failed() {
			return
		}
	}
	if min(met[true], met[false]) < 2000 {
		t.Errorf("so many words were told, and were not: %v", met)
	}
}

// The machine of a tree, turned round, tells what that of the tree, turned round, does.
func TestP1804TreeAndNfa(t *testing.T) {
	t.Parallel()
	next := sample.Chances()
	words := sample.AllWords("ab", 4)
	for _, x := range slices.Concat(sample.Things(), sample.Around()) {
		n, wrong := nfa.Of([]api.Node{x})
		other, also := nfa.Of([]api.Node{Tree(x)})
		if wrong != also || n.States != other.States {
			t.Fatalf("the machine of %s has %d states, and that of it, turned round, %d", brief(x), n.States, other.States)
		}
		if wrong != api.OK {
			continue
		}
		m, k := atWork(t, turned(t, n, 1)), atWork(t, other)
		for _, w := range append(words, sample.AnyWord(5+next(30), "abc", next)) {
			if m.Tell([]byte(w)) != k.Tell([]byte(w)) {
				t.Errorf("of %q the machine of %s tells %d, turned round, and that of it, turned round, %d", w, brief(x), m.Tell([]byte(w)), k.Tell([]byte(w)))
			}
		}
	}
}

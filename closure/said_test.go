package closure

import (
	"slices"
	"testing"

	"doublet/api"
	"doublet/match"
	"doublet/sample"
)

// holdSaid: Labels of Run of a word are the places of the trees that say it, and Tell is the first one. It tells how many there are.
func holdSaid(t *testing.T, m *Machine, l []api.Node, w string) int {
	t.Helper()
	var want []int
	for i, x := range l {
		if match.Full(x, []byte(w)) {
			want = append(want, i+1)
		}
	}
	got := m.Labels(m.Run([]byte(w)))
	if !slices.Equal(got, want) {
		t.Errorf("of %s the labels behind %q are %v, and said it is by %v", several(l), w, got, want)
	}
	first := 0
	if len(want) > 0 {
		first = want[0]
	}
	if told := m.Tell([]byte(w)); told != first {
		t.Errorf("of %s Tell(%q) is %d, want %d", several(l), w, told, first)
	}
	return len(want)
}

// The chapter's example, and others that are written out.
func TestP1704WrittenOut(t *testing.T) {
	for _, r := range []struct {
		texts []string
		want  map[string][]int
	}{
		{[]string{"a", "a*"}, map[string][]int{"": {2}, "a": {1, 2}, "aa": {2}, "b": nil, "ab": nil}},
		{[]string{"a*", "a"}, map[string][]int{"": {1}, "a": {1, 2}, "aa": {1}}},
		{nil, map[string][]int{"": nil, "a": nil}},
		{[]string{""}, map[string][]int{"": {1}, "a": nil}},
		{[]string{"", "", "a?"}, map[string][]int{"": {1, 2, 3}, "a": {3}, "aa": nil}},
		{[]string{"if", "[a-z]+", "if"}, map[string][]int{"if": {1, 2, 3}, "i": {2}, "iff": {2}, "": nil, "If": nil}},
		{[]string{"ab|c", "(ab|c)+", "(ab|c)?", "(ab|c){2,3}"}, map[string][]int{"": {3}, "ab": {1, 2, 3}, "c": {1, 2, 3}, "abc": {2, 4}, "abab": {2, 4}, "ccc": {2, 4}, "cccc": {2}, "abca": nil}},
		{[]string{"[^\\x00-\\xff]", "[^\\x00-\\xff]*", "a[^\\x00-\\xff]|b"}, map[string][]int{"": {2}, "a": nil, "b": {3}}},
		{[]string{".*", "[^a]*", "\\n", "[\\x00-\\xff]{2}"}, map[string][]int{"": {1, 2}, "\n": {2, 3}, "a": {1}, "\xff\x00": {1, 2, 4}, "a\n": {4}, "\x80": {1, 2}, "@?": {1, 2, 4}}},
		{[]string{"(a|a|a)*", "(|a){3}", "(a*)*", "((a?)+)?"}, map[string][]int{"": {1, 2, 3, 4}, "aaa": {1, 2, 3, 4}, "aaaa": {1, 3, 4}}},
	} {
		m := ofTexts(t, r.texts...)
		for w, want := range r.want {
			holdList(t, m.Labels(m.Run([]byte(w))), want, "of %q Labels of Run(%q)", r.texts, w)
			first := 0
			if len(want) > 0 {
				first = want[0]
			}
			if got := m.Tell([]byte(w)); got != first {
				t.Errorf("of %q Tell(%q) is %d, want %d", r.texts, w, got, first)
			}
		}
	}
}

// All trees of up to three, four and five nodes, the greater ones of fewer leaves and numbers; as many in a machine as may be.
func TestP1704AllSmallTrees(t *testing.T) {
	t.Parallel()
	for _, some := range sample.SmallTrees() {
		words := sample.AllWords(some.Bytes, some.Most)
		for l := range slices.Chunk(some.Trees, 64) {
			m := ofTrees(t, l...)
			for _, w := range words {
				holdSaid(t, m, l, w)
			}
			if t.Failed() {
				return
			}
		}
	}
}

// Each kind within each other, repeats, and choices of equal parts.
func TestP1704KindsWithinEachOther(t *testing.T) {
	t.Parallel()
	var l []api.Node
	for _, x := range sample.Things() {
		l = append(l, sample.Above(x)...)
		l = append(l, of(5, x, x), of(5, x, x, x), of(4, x, x), of(6, of(5, x, x)), rep(of(5, x, e(), x), 0, 3), of(5, none(), x), of(4, x, hole()), of(8, of(4, x, c())))
		for _, y := range sample.Above(x) {
			l = append(l, of(6, y), of(7, y), of(8, y), rep(y, 2, 3), rep(y, 1, -1), rep(y, 0, 2))
		}
	}
	words := append(sample.AllWords("ab", 4), "c", "ac", "bc", "abc", "aaaaa", "ababab", "bbbbbb", "aaaaaaa")
	said := 0
	for some := range slices.Chunk(l, 64) {
		m := ofTrees(t, some...)
		for _, w := range words {
			said += holdSaid(t, m, some, w)
		}
		if t.Failed() {
			return
		}
	}
	if said < 1000 {
		t.Errorf("only %d words were said", said)
	}
}

// Random trees, one and several; all short words of a few bytes, random ones, and such as they say.
func TestP1704RandomTrees(t *testing.T) {
	t.Parallel()
	next := sample.Chances()
	short := sample.AllWords("abc", 3)
	said, unsaid, more := 0, 0, 0
	for range 2500 {
		l := sample.SomeTrees(6, next)
		n := machineOf(l...)
		// Trees of great numbers may take too many states, or many.
		if n.States == 0 || n.States > 3000 {
			continue
		}
		m := at(t, n)
		words := []string{short[next(len(short))], short[next(len(short))], sample.AnyWord(next(9), "abc", next), sample.AnyWord(next(9), "aab\n\x00\xff", next)}
		for _, x := range l {
			if w, ok := sample.Spoken(x, 30, next); ok {
				words = append(words, w, w+"a", w[:len(w)/2])
			}
		}
		for _, w := range words {
			switch holdSaid(t, m, l, w) {
			case 0:
				unsaid++
			case 1:
				said++
			default:
				more++
			}
		}
		if t.Failed() {
			return
		}
	}
	if min(said, unsaid, more) < 1500 {
		t.Errorf("%d words were said by one tree, %d by several, %d by none", said, more, unsaid)
	}
	// All short words, of fewer trees.
	for range 100 {
		l := sample.SomeTrees(10, next)
		l = slices.DeleteFunc(l, func(x api.Node) bool { return machineOf(x).States == 0 || machineOf(x).States > 300 })
		m := ofTrees(t, l...)
		for _, w := range short {
			holdSaid(t, m, l, w)
		}
	}
}

// Repeats about the numbers that they name, and long words.
func TestP1704Repeats(t *testing.T) {
	t.Parallel()
	var l []api.Node
	for _, ends := range [][2]int{{0, 0}, {0, 1}, {0, 5}, {0, -1}, {1, 1}, {1, 5}, {1, -1}, {5, 5}, {5, 6}, {5, 9}, {5, -1}, {63, 64}, {64, -1}, {100, 256}, {200, 200}} {
		for _, x := range []api.Node{a(), of(8, a()), of(4, a(), b()), of(5, a(), b()), of(5, of(4, a(), a()), a()), of(6, of(4, b(), a()))} {
			l = append(l, rep(x, ends[0], ends[1]))
		}
	}
	for some := range slices.Chunk(l, 30) {
		m := ofTrees(t, some...)
		for _, n := range []int{0, 1, 2, 4, 5, 6, 9, 10, 11, 62, 63, 64, 65, 99, 100, 101, 128, 200, 201, 255, 256} {
			w := make([]byte, n)
			for i := range w {
				w[i] = 'a'
			}
			holdSaid(t, m, some, string(w))
			for i := range w {
				w[i] = "ab"[i%2]
			}
			holdSaid(t, m, some, string(w))
			for i := range w {
				w[i] = "ba"[i%2]
			}
			holdSaid(t, m, some, string(w))
		}
	}
}

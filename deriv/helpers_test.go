package deriv

import (
	"slices"
	"strings"
	"testing"

	"doublet/api"
	"doublet/match"
	"doublet/sample"
	"doublet/sets"
	"doublet/simple"
	"doublet/texts"
	"doublet/tree"
)

// nothing: a class of no byte, as a text.
const nothing = texts.Nothing

// Short names for what most trees are made of.
var (
	a, b, c, e       = sample.A, sample.B, sample.C, sample.Empty
	none, hole, leaf = sample.None, sample.Hole, sample.Leaf
	of, times        = sample.Of, sample.Rep

	allWords, anyWord, spoken = sample.AllWords, sample.AnyWord, sample.Spoken

	read, brief = texts.Tree, texts.Brief
)

// many: a word again and again.
func many(n int, w string) string { return strings.Repeat(w, n) }

// ofSet: a leaf of a set.
func ofSet(s api.Set) api.Node { return api.Node{Kind: api.KindSet, Set: s} }

// row: n leaves of a byte, one behind the other.
func row(n int, x byte) api.Node { return of(4, again(n, leaf(x))...) }

// again: a tree, n times.
func again(n int, x api.Node) []api.Node { return slices.Repeat([]api.Node{x}, n) }

// empty: does a tree say the empty word?
func empty(x api.Node) bool { return match.Full(x, nil) }

// plain: the simple tree of one that may be.
func plain(t *testing.T, x api.Node) api.Node {
	t.Helper()
	y, wrong := simple.Of(x)
	if wrong != api.OK {
		t.Fatalf("simple.Of(%s) tells %d", brief(x), wrong)
	}
	return y
}

// holdWord: behind a word stands a tree, which is simple, and says the empty word just if the whole one says the word. Of a word of one byte By tells the same.
func holdWord(t *testing.T, x api.Node, w string, want api.Node) {
	t.Helper()
	got, wrong := Word(x, []byte(w))
	if wrong != api.OK || !tree.Same(got, want) {
		t.Errorf("Word(%s, %.60q) = %s, %d, want %s", brief(x), w, brief(got), wrong, brief(want))
	}
	if !tree.Right(got) || !tree.Same(got, plain(t, got)) {
		t.Errorf("Word(%s, %.60q) = %s, which is not simple", brief(x), w, brief(got))
	}
	if is, wrong := Says(x, []byte(w)); is != empty(want) || wrong != api.OK {
		t.Errorf("Says(%s, %.60q) = %t, %d, and behind it stands %s", brief(x), w, is, wrong, brief(want))
	}
	if len(w) != 1 {
		return
	}
	if got, wrong := By(x, w[0]); wrong != api.OK || !tree.Same(got, want) {
		t.Errorf("By(%s, %q) = %s, %d, want %s", brief(x), w, brief(got), wrong, brief(want))
	}
}

// holdWrong: of a tree and a word an error is told, and nothing else.
func holdWrong(t *testing.T, x api.Node, w string, want api.Errno) {
	t.Helper()
	if got, wrong := Word(x, []byte(w)); wrong != want || !tree.Same(got, api.Node{}) {
		t.Errorf("Word(%s, %.60q) = %s, %d, want %d", brief(x), w, brief(got), wrong, want)
	}
	if is, wrong := Says(x, []byte(w)); wrong != want || is {
		t.Errorf("Says(%s, %.60q) = %t, %d, want %d", brief(x), w, is, wrong, want)
	}
	if len(w) != 1 {
		return
	}
	if got, wrong := By(x, w[0]); wrong != want || !tree.Same(got, api.Node{}) {
		t.Errorf("By(%s, %q) = %s, %d, want %d", brief(x), w, brief(got), wrong, want)
	}
}

// holdMayNot: of a tree that may not be nothing is told, whatever the word is.
func holdMayNot(t *testing.T, x api.Node) {
	t.Helper()
	for _, w := range []string{"", "a", "b", "\x00", "\xff", "ab", many(300, "ab")} {
		holdWrong(t, x, w, api.ErrKind)
	}
	if l := Atoms(x); len(l) > 0 {
		t.Errorf("Atoms(%s) = %v", brief(x), l)
	}
}

// holdRows: behind a word in the tree of a text stands the tree of another one.
func holdRows(t *testing.T, rows ...[3]string) {
	t.Helper()
	for _, r := range rows {
		want := read(r[2])
		if r[2] == nothing {
			want = none()
		}
		holdWord(t, read(r[0]), r[1], want)
	}
}

// holdAtoms: the Atoms of a tree, by their bytes.
func holdAtoms(t *testing.T, x api.Node, want ...api.Set) {
	t.Helper()
	got := Atoms(x)
	same := len(got) == len(want)
	for i := range min(len(got), len(want)) {
		same = same && got[i] == want[i]
	}
	if !same {
		t.Errorf("Atoms(%s) = %v, want %v", brief(x), shown(got), shown(want))
	}
}

// shown: the bytes of sets, as pieces from a first to a last one.
func shown(l []api.Set) [][][2]byte {
	var all [][][2]byte
	for _, s := range l {
		all = append(all, sets.Spans(s))
	}
	return all
}

package facts

import (
	"math"
	"strings"
	"testing"

	"doublet/api"
	"doublet/sample"
	"doublet/sets"
	"doublet/texts"
)

const (
	greatest = math.MaxInt
	least    = math.MinInt
)

// Short names for what most trees are made of.
var (
	a, b, c, e       = sample.A, sample.B, sample.C, sample.Empty
	none, hole, leaf = sample.None, sample.Hole, sample.Leaf
	of, rep          = sample.Of, sample.Rep

	small, above, things, around = sample.Small, sample.Above, sample.Things, sample.Around
	exactly, greatly             = sample.Exactly, sample.Greatly

	read, brief = texts.Tree, texts.Brief
)

// answers: what all calls but Least tell of a tree.
type answers struct {
	hollow, nullable, bounded bool
	shortest, longest         int
	first, last               api.Set
}

func asked(x api.Node) answers {
	return answers{Hollow(x), Nullable(x), Bounded(x), Shortest(x), Longest(x), First(x), Last(x)}
}

// ofNone, ofEmpty: what is told of trees that say no word, and the empty one alone.
func ofNone() answers  { return answers{hollow: true, bounded: true, shortest: -1, longest: -1} }
func ofEmpty() answers { return answers{nullable: true, bounded: true} }

// holdAnswers: all calls but Least tell something of a tree.
func holdAnswers(t *testing.T, x api.Node, want answers) {
	t.Helper()
	if got := asked(x); got != want {
		t.Errorf("of %s is told\n%v, want\n%v", brief(x), got, want)
	}
}

// holdWord: Least of a tree and a most tells a word, or none.
func holdWord(t *testing.T, x api.Node, most int, want string, said bool) {
	t.Helper()
	got, ok := Least(x, most)
	if string(got) != want || ok != said {
		t.Errorf("Least(%s, %d) = %.60q (%d bytes), %t, want %.60q (%d bytes), %t", brief(x), most, got, len(got), ok, want, len(want), said)
	}
	if !ok && got != nil {
		t.Errorf("Least(%s, %d) tells a list beside false", brief(x), most)
	}
}

// holdLeast: Least tells a tree's least word just if most has room for it.
func holdLeast(t *testing.T, x api.Node, want string) {
	t.Helper()
	n := len(want)
	for _, most := range []int{least, -1, 0, 1, n - 1, n, n + 1, 2*n + 7, 1 << 40, greatest} {
		if most < n {
			holdWord(t, x, most, "", false)
		} else {
			holdWord(t, x, most, want, true)
		}
	}
}

// holdNoWord: Least tells none of a tree, whatever most is.
func holdNoWord(t *testing.T, x api.Node) {
	t.Helper()
	for _, most := range []int{least, -2, -1, 0, 1, 2, 100, 1 << 40, greatest - 1, greatest} {
		holdWord(t, x, most, "", false)
	}
}

// holdAll: all calls, where the least word is as long as the shortest one.
func holdAll(t *testing.T, x api.Node, want answers, word string) {
	t.Helper()
	holdAnswers(t, x, want)
	if want.shortest < 0 {
		holdNoWord(t, x)
		return
	}
	holdLeast(t, x, word)
}

// holdMayNot: of a tree that may not be nothing is told.
func holdMayNot(t *testing.T, x api.Node) {
	t.Helper()
	holdAnswers(t, x, answers{shortest: -1, longest: -1})
	holdNoWord(t, x)
}

// set: the set of a text's bytes.
func set(text string) api.Set { return sets.Of([]byte(text)...) }

// row: a text told by its facts. Of endless words the longest is -1.
type row struct {
	text              string
	shortest, longest int
	first, last       string
	least             string
}

// holdRows: texts' trees are told by their rows; with a longest of -1 and a shortest of none, they say no word.
func holdRows(t *testing.T, rows ...row) {
	t.Helper()
	for _, r := range rows {
		holdAll(t, read(r.text), answers{
			hollow: r.shortest == -1, nullable: r.shortest == 0, bounded: r.shortest == -1 || r.longest >= 0,
			shortest: r.shortest, longest: r.longest, first: set(r.first), last: set(r.last),
		}, r.least)
	}
}

// many: a word again and again.
func many(n int, w string) string { return strings.Repeat(w, n) }

package closure

import (
	"slices"
	"testing"

	"doublet/api"
	"doublet/sample"
	"doublet/sets"
)

// Each byte, by sets of no, one, some and all of them.
func TestP1702StepByEachByte(t *testing.T) {
	some := []api.Set{
		{}, sets.All(), sets.Span(0, 63), sets.Span(64, 127), sets.Span(128, 191), sets.Span(192, 255), sets.Span(63, 64), sets.Span(127, 128), sets.Span(191, 192), sets.Span('a', 'z'),
		sets.Of(0), sets.Of(63), sets.Of(64), sets.Of(127), sets.Of(128), sets.Of(191), sets.Of(192), sets.Of(255), sets.Of(0, 64, 128, 192), sets.Of(0, 255), sets.Not(sets.Of(0)), sets.Not(sets.Of(64)), sets.Not(sets.Of(255)), {1 << 5, 1 << 6, 1 << 7, 1 << 8},
	}
	for i := range 256 {
		b := byte(i)
		for _, s := range append(some, sets.Of(b), sets.Not(sets.Of(b)), sets.Of(b+1), sets.Of(b+64), sets.Of(b+128)) {
			n := bare(3)
			n.Edges = []api.Edge{{From: 1, Set: s, To: 2}}
			m := at(t, n)
			var want []int
			if s[i/64]>>(i%64)&1 == 1 {
				want = []int{2}
			}
			holdList(t, m.Step([]int{1}, b), want, "by an edge by %x Step(1, %d)", s, b)
			holdList(t, m.Step([]int{0, 2}, b), nil, "by an edge by %x Step(0 and 2, %d)", s, b)
		}
	}
}

// Edges between six states, in order, and links; what Step tells of lists, by a byte.
func TestP1702Step(t *testing.T) {
	for _, r := range []struct {
		edges   []api.Edge
		links   []int
		l, want []int
	}{
		{nil, nil, []int{0, 1, 5}, nil}, {nil, []int{0, 1}, []int{0}, nil}, {[]api.Edge{edge(0, "a", 1)}, nil, nil, nil},
		{[]api.Edge{edge(0, "a", 1)}, nil, []int{0}, []int{1}}, {[]api.Edge{edge(0, "b", 1)}, nil, []int{0}, nil}, {[]api.Edge{edge(0, "", 1)}, nil, []int{0}, nil}, {[]api.Edge{edge(0, "a", 1)}, nil, []int{1}, nil}, {[]api.Edge{edge(5, "a", 0)}, nil, []int{5}, []int{0}},
		// Several edges from one state, with bytes in common and without.
		{[]api.Edge{edge(0, "a", 3), edge(0, "a", 1), edge(0, "a", 5)}, nil, []int{0}, []int{1, 3, 5}}, {[]api.Edge{edge(0, "ab", 3), edge(0, "bc", 1), edge(0, "ca", 5)}, nil, []int{0}, []int{3, 5}}, {[]api.Edge{edge(0, "b", 3), edge(0, "c", 1), edge(0, "a", 5)}, nil, []int{0}, []int{5}}, {[]api.Edge{edge(0, "b", 3), edge(0, "c", 1)}, nil, []int{0}, nil},
		// The same edge twice, and two to one state.
		{[]api.Edge{edge(0, "a", 3), edge(0, "a", 3)}, nil, []int{0}, []int{3}}, {[]api.Edge{edge(0, "ab", 3), edge(0, "ac", 3)}, nil, []int{0}, []int{3}}, {[]api.Edge{edge(0, "b", 3), edge(0, "a", 3)}, nil, []int{0}, []int{3}},
		// To the state itself.
		{[]api.Edge{edge(2, "a", 2)}, nil, []int{2}, []int{2}}, {[]api.Edge{edge(2, "b", 2)}, nil, []int{2}, nil}, {[]api.Edge{edge(2, "a", 2), edge(2, "a", 4)}, nil, []int{2}, []int{2, 4}},
		// From several states.
		{[]api.Edge{edge(0, "a", 3), edge(1, "a", 2)}, nil, []int{0, 1}, []int{2, 3}}, {[]api.Edge{edge(0, "a", 3), edge(1, "b", 2)}, nil, []int{1, 0}, []int{3}}, {[]api.Edge{edge(0, "a", 3), edge(1, "a", 3)}, nil, []int{1, 0}, []int{3}}, {[]api.Edge{edge(0, "a", 1), edge(1, "a", 0)}, nil, []int{0, 1}, []int{0, 1}}, {[]api.Edge{edge(0, "a", 1), edge(1, "a", 2)}, nil, []int{0}, []int{1}}, {[]api.Edge{edge(4, "a", 0), edge(0, "a", 4), edge(4, "a", 5)}, nil, []int{4}, []int{0, 5}},
		// States twice, and in any order.
		{[]api.Edge{edge(0, "a", 3), edge(1, "a", 2)}, nil, []int{1, 0, 1, 1, 0}, []int{2, 3}}, {[]api.Edge{edge(3, "a", 0)}, nil, []int{3, 3}, []int{0}},
		// Links behind edges are gone through, on and on.
		{[]api.Edge{edge(0, "a", 1)}, []int{1, 4}, []int{0}, []int{1, 4}}, {[]api.Edge{edge(0, "a", 1)}, []int{1, 4, 4, 3, 3, 1}, []int{0}, []int{1, 3, 4}}, {[]api.Edge{edge(0, "a", 1)}, []int{1, 0}, []int{0}, []int{0, 1}}, {[]api.Edge{edge(0, "a", 0)}, []int{0, 5}, []int{0}, []int{0, 5}}, {[]api.Edge{edge(0, "a", 5), edge(0, "a", 2)}, []int{2, 1, 5, 3}, []int{0}, []int{1, 2, 3, 5}},
		// Those ahead of edges are not, nor are edges behind links.
		{[]api.Edge{edge(1, "a", 2)}, []int{0, 1}, []int{0}, nil}, {[]api.Edge{edge(1, "a", 2)}, []int{0, 1}, []int{0, 1}, []int{2}}, {[]api.Edge{edge(1, "a", 2), edge(0, "a", 3)}, []int{0, 1}, []int{0}, []int{3}}, {[]api.Edge{edge(0, "a", 1), edge(2, "a", 3)}, []int{1, 2}, []int{0}, []int{1, 2}},
	} {
		n := linked(6, r.links...)
		n.Edges = r.edges
		m := at(t, n)
		holdList(t, m.Step(r.l, 'a'), r.want, "of %s Step(%v, a)", shown(n), r.l)
		slices.Reverse(n.Edges)
		holdList(t, at(t, n).Step(r.l, 'a'), r.want, "of %s Step(%v, a)", shown(n), r.l)
		holdList(t, m.Step(append(outsides(6), r.l...), 'a'), r.want, "of %s Step(%v and no states, a)", shown(n), r.l)
		holdList(t, m.Step(r.l, 'x'), nil, "of %s Step(%v, x)", shown(n), r.l)
	}
}

// Numbers that are no states are passed over, alone and among others.
func TestP1701StepOfNoStates(t *testing.T) {
	for _, states := range []int{1, 2, 6, 63, 64, 65, 128, 1000, 65536} {
		n := bare(states)
		n.Edges = []api.Edge{edge(0, "a\x00\x40\x80\xc0", states-1), edge(states-1, "a\x00\x40\x80\xc0", 0)}
		m := at(t, n)
		for _, b := range []byte("a\x00\x40\x80\xc0") {
			holdList(t, m.Step(outsides(states), b), nil, "Step of no states")
			for _, wrong := range outsides(states) {
				holdList(t, m.Step([]int{wrong}, b), nil, "of %d states Step(%d)", states, wrong)
				holdList(t, m.Step([]int{wrong, 0, wrong}, b), []int{states - 1}, "of %d states Step(0 and %d)", states, wrong)
				holdList(t, m.Step([]int{states - 1, wrong}, b), []int{0}, "of %d states Step(the last one and %d)", states, wrong)
			}
		}
	}
}

func TestP1702Run(t *testing.T) {
	// From 1, a and b in a ring of three; x leads out of it, and c nowhere.
	n := linked(6, 1, 0, 4, 5)
	n.Start = 1
	n.Edges = []api.Edge{edge(0, "a", 2), edge(2, "b", 3), edge(3, "ab", 1), edge(1, "\x00\xff", 1), edge(2, "x", 4)}
	m := at(t, n)
	for w, want := range map[string][]int{
		"": {0, 1}, "a": {2}, "ab": {3}, "aba": {0, 1}, "abb": {0, 1}, "abaa": {2}, "abbabbab": {3}, "ax": {4, 5}, "abaabbax": {4, 5},
		"\x00": {0, 1}, "\xff\x00a": {2}, "\x00\xff\x00\xffab": {3}, "aba\xff": {0, 1},
		"b": nil, "c": nil, "aa": nil, "bab": nil, "abx": nil, "axx": nil, "axa": nil, "a\x00": nil, "cab": nil, "aab": nil, "b\x00\xffab": nil,
	} {
		holdList(t, m.Run([]byte(w)), want, "Run(%q)", w)
		// What leads nowhere stays there.
		for _, more := range []string{"a", "ab", "\x00", "\xff\xff", "x"} {
			if want == nil {
				holdList(t, m.Run([]byte(w+more)), nil, "Run(%q)", w+more)
			}
		}
	}
	for range 300 {
		holdList(t, m.Run(nil), []int{0, 1}, "Run of nil")
		holdList(t, m.Run([]byte{}), []int{0, 1}, "Run of no bytes")
	}
	// The bytes behind a word are not of it.
	w := []byte("abax")
	for cut, want := range [][]int{{0, 1}, {2}, {3}, {0, 1}} {
		holdList(t, m.Run(w[:cut]), want, "Run(%q) with room behind", w[:cut])
		holdList(t, m.Run(sample.RoomyText("aba")[:cut]), want, "Run(%q) with room behind", w[:cut])
	}
}

// A run from what a start leads to: links at the start, and edges that lead back to it.
func TestP1702RunFromTheStart(t *testing.T) {
	for start := range 4 {
		n := linked(4, 0, 1, 1, 2, 2, 3)
		n.Start = start
		n.Edges = []api.Edge{edge(3, "a", 0), edge(2, "b", 2), edge(0, "c", 3)}
		m := at(t, n)
		holdList(t, m.Run(nil), upTo(start, 4), "from %d Run of nil", start)
		holdList(t, m.Run([]byte("a")), upTo(0, 4), "from %d Run(a)", start)
		holdList(t, m.Run([]byte("aaa")), upTo(0, 4), "from %d Run(aaa)", start)
		want := map[bool][]int{true: {2, 3}}[start <= 2]
		holdList(t, m.Run([]byte("b")), want, "from %d Run(b)", start)
		holdList(t, m.Run([]byte("bbb")), want, "from %d Run(bbb)", start)
		want = map[bool][]int{true: {3}}[start == 0]
		holdList(t, m.Run([]byte("c")), want, "from %d Run(c)", start)
		holdList(t, m.Run([]byte("ac")), []int{3}, "from %d Run(ac)", start)
		holdList(t, m.Run([]byte("acb")), nil, "from %d Run(acb)", start)
	}
}

package nfa

import (
	"slices"
	"testing"

	"doublet/api"
	"doublet/sample"
	"doublet/sets"
)

// row: a text, and what the machine of its tree alone is.
type row struct {
	text         string
	states       int
	links, edges string
}

// holdLaid: the machine of one tree has so many states, the last one with the label 1, and just these links and edges.
func holdLaid(t *testing.T, x api.Node, states int, links, edges string) {
	t.Helper()
	n := made(t, x)
	want := make([]int, states)
	want[states-1] = 1
	if n.States != states || n.Start != 0 || linksOf(n.Links) != links || edgesOf(n.Edges) != edges || !slices.Equal(n.Accept, want) {
		t.Errorf("of %s comes\n%s, want\n%d states, links %s, edges %s", brief(x), front(shown(n)), states, links, edges)
	}
}

func holdRows(t *testing.T, rows ...row) {
	t.Helper()
	for _, r := range rows {
		holdLaid(t, read(r.text), r.states, r.links, r.edges)
	}
}

func TestP1603EachKind(t *testing.T) {
	holdLaid(t, none(), 3, "1>2", "")
	holdRows(t,
		row{"", 2, "0>1", ""}, row{"a", 3, "1>2", "0[a]1"}, row{"[a-c]", 3, "1>2", "0[a-c]1"}, row{nothing, 3, "1>2", "0" + nothing + "1"}, row{`[\x00-\xff]`, 3, "1>2", `0[\x00-\xff]1`},
		row{"ab", 4, "2>3", "0[a]1 1[b]2"}, row{"abc", 5, "3>4", "0[a]1 1[b]2 2[c]3"}, row{"aaaa", 6, "4>5", "0[a]1 1[a]2 2[a]3 3[a]4"},
		row{"a|b", 5, "1>3 2>3 3>4", "0[a]1 0[b]2"}, row{"a|b|c", 6, "1>4 2>4 3>4 4>5", "0[a]1 0[b]2 0[c]3"},
		row{"a*", 4, "0>1 2>1 1>3", "1[a]2"}, row{"a+", 4, "0>1 2>1 2>3", "1[a]2"}, row{"a?", 4, "1>2 0>2 2>3", "0[a]1"},
		row{"a{2}", 4, "2>3", "0[a]1 1[a]2"}, row{"a{2,}", 6, "2>3 4>3 3>5", "0[a]1 1[a]2 3[a]4"}, row{"a{1,2}", 5, "1>2 3>2 2>4", "0[a]1 1[a]3"},
	)
}

func TestP1603Cat(t *testing.T) {
	holdRows(t,
		row{"a()b", 4, "2>3", "0[a]1 1[b]2"}, row{"()ab()", 4, "2>3", "0[a]1 1[b]2"}, row{"()()()", 2, "0>1", ""}, row{"(ab)(ca)", 6, "4>5", "0[a]1 1[b]2 2[c]3 3[a]4"}, row{"a" + nothing + "b", 5, "3>4", "0[a]1 1" + nothing + "2 2[b]3"},
		// Each from the end of the one ahead on, wherever that is.
		row{"a*b", 5, "0>1 2>1 3>4", "1[a]2 1[b]3"}, row{"a+b", 5, "0>1 2>1 3>4", "1[a]2 2[b]3"}, row{"a?b", 5, "1>2 0>2 3>4", "0[a]1 2[b]3"}, row{"(a|b)c", 6, "1>3 2>3 4>5", "0[a]1 0[b]2 3[c]4"},
		row{"a*b*", 6, "0>1 2>1 1>3 4>3 3>5", "1[a]2 3[b]4"}, row{"ab*", 5, "1>2 3>2 2>4", "0[a]1 2[b]3"}, row{"ab?c", 6, "2>3 1>3 4>5", "0[a]1 1[b]2 3[c]4"},
	)
	// Behind what says no word is a state to which nothing leads.
	holdLaid(t, of(4, a(), none(), b()), 5, "3>4", "0[a]1 2[b]3")
	holdLaid(t, of(4, none(), none()), 4, "2>3", "")
}

func TestP1603Alt(t *testing.T) {
	holdRows(t,
		row{"ab|c", 6, "2>4 3>4 4>5", "0[a]1 1[b]2 0[c]3"}, row{"c|ab", 6, "1>4 3>4 4>5", "0[c]1 0[a]2 2[b]3"}, row{"a(b|c)", 6, "2>4 3>4 4>5", "0[a]1 1[b]2 1[c]3"},
		// Equal Kids.
		row{"a|a", 5, "1>3 2>3 3>4", "0[a]1 0[a]2"}, row{"a|a|a", 6, "1>4 2>4 3>4 4>5", "0[a]1 0[a]2 0[a]3"},
		// Kids whose end is where they began.
		row{"|", 3, "0>1 0>1 1>2", ""}, row{"|||", 3, "0>1 0>1 0>1 0>1 1>2", ""}, row{"a|", 4, "1>2 0>2 2>3", "0[a]1"}, row{"|a", 4, "0>2 1>2 2>3", "0[a]1"}, row{"a||b", 5, "1>3 0>3 2>3 3>4", "0[a]1 0[b]2"}, row{"a(|b{0}|()())", 4, "1>2 1>2 1>2 2>3", "0[a]1"},
		// Within each other.
		row{"a|(b|c)", 7, "2>4 3>4 1>5 4>5 5>6", "0[a]1 0[b]2 0[c]3"}, row{"(a|b)|c", 7, "1>3 2>3 3>5 4>5 5>6", "0[a]1 0[b]2 0[c]4"}, row{"a*|b?|c+", 9, "0>1 2>1 3>4 0>4 0>5 6>5 1>7 4>7 6>7 7>8", "1[a]2 0[b]3 5[c]6"},
	)
	holdLaid(t, of(5, a(), none()), 5, "1>3 2>3 3>4", "0[a]1")
	holdLaid(t, of(5, none(), e(), none()), 5, "1>3 0>3 2>3 3>4", "")
}

func TestP1603StarPlusOpt(t *testing.T) {
	holdRows(t,
		row{"()*", 3, "0>1 1>1 1>2", ""}, row{"()+", 3, "0>1 1>1 1>2", ""}, row{"()?", 3, "0>1 0>1 1>2", ""},
		row{"(ab)*", 5, "0>1 3>1 1>4", "1[a]2 2[b]3"}, row{"(ab)+", 5, "0>1 3>1 3>4", "1[a]2 2[b]3"}, row{"(ab)?", 5, "2>3 0>3 3>4", "0[a]1 1[b]2"},
		row{"(a|b)*", 6, "0>1 2>4 3>4 4>1 1>5", "1[a]2 1[b]3"}, row{"(a|b)+", 6, "0>1 2>4 3>4 4>1 4>5", "1[a]2 1[b]3"}, row{"(a|b)?", 6, "1>3 2>3 3>4 0>4 4>5", "0[a]1 0[b]2"},
		// Within each other.
		row{"(a*)*", 5, "0>1 1>2 3>2 2>1 1>4", "2[a]3"}, row{"(a+)*", 5, "0>1 1>2 3>2 3>1 1>4", "2[a]3"}, row{"(a?)*", 5, "0>1 2>3 1>3 3>1 1>4", "1[a]2"},
		row{"(a*)+", 5, "0>1 1>2 3>2 2>1 2>4", "2[a]3"}, row{"(a+)+", 5, "0>1 1>2 3>2 3>1 3>4", "2[a]3"}, row{"(a?)+", 5, "0>1 2>3 1>3 3>1 3>4", "1[a]2"},
		row{"(a*)?", 5, "0>1 2>1 1>3 0>3 3>4", "1[a]2"}, row{"(a+)?", 5, "0>1 2>1 2>3 0>3 3>4", "1[a]2"}, row{"(a?)?", 5, "1>2 0>2 2>3 0>3 3>4", "0[a]1"},
		// Behind another one.
		row{"ba*", 5, "1>2 3>2 2>4", "0[b]1 2[a]3"}, row{"ba+", 5, "1>2 3>2 3>4", "0[b]1 2[a]3"}, row{"ba?", 5, "2>3 1>3 3>4", "0[b]1 1[a]2"},
	)
	holdLaid(t, of(6, none()), 4, "0>1 2>1 1>3", "")
	holdLaid(t, of(7, none()), 4, "0>1 2>1 2>3", "")
	holdLaid(t, of(8, none()), 4, "1>2 0>2 2>3", "")
}

func TestP1603Rep(t *testing.T) {
	holdRows(t,
		// Lo 0, and Hi 0, 1, 2, -1.
		row{"a{0}", 2, "0>1", ""}, row{"a{0,1}", 4, "0>1 2>1 1>3", "0[a]2"}, row{"a{0,2}", 5, "0>1 2>1 3>1 1>4", "0[a]2 2[a]3"}, row{"a{0,3}", 6, "0>1 2>1 3>1 4>1 1>5", "0[a]2 2[a]3 3[a]4"}, row{"a{0,}", 4, "0>1 2>1 1>3", "1[a]2"},
		// Lo 1 and 2, and Hi equal, one more, two more, -1.
		row{"a{1}", 3, "1>2", "0[a]1"}, row{"a{1,2}", 5, "1>2 3>2 2>4", "0[a]1 1[a]3"}, row{"a{1,3}", 6, "1>2 3>2 4>2 2>5", "0[a]1 1[a]3 3[a]4"}, row{"a{1,}", 5, "1>2 3>2 2>4", "0[a]1 2[a]3"},
		row{"a{2}", 4, "2>3", "0[a]1 1[a]2"}, row{"a{2,3}", 6, "2>3 4>3 3>5", "0[a]1 1[a]2 2[a]4"}, row{"a{2,4}", 7, "2>3 4>3 5>3 3>6", "0[a]1 1[a]2 2[a]4 4[a]5"}, row{"a{2,}", 6, "2>3 4>3 3>5", "0[a]1 1[a]2 3[a]4"},
		row{"a{3}", 5, "3>4", "0[a]1 1[a]2 2[a]3"},
		// Of more than one state.
		row{"(ab){2}", 6, "4>5", "0[a]1 1[b]2 2[a]3 3[b]4"}, row{"(ab){1,2}", 7, "2>3 5>3 3>6", "0[a]1 1[b]2 2[a]4 4[b]5"}, row{"(ab){1,}", 7, "2>3 5>3 3>6", "0[a]1 1[b]2 3[a]4 4[b]5"}, row{"(a|b){2}", 8, "1>3 2>3 4>6 5>6 6>7", "0[a]1 0[b]2 3[a]4 3[b]5"},
		// Of one whose end is not its last state.
		row{"(a*){2}", 6, "0>1 2>1 1>3 4>3 3>5", "1[a]2 3[a]4"}, row{"(a*){0,2}", 7, "0>1 0>2 3>2 2>1 2>4 5>4 4>1 1>6", "2[a]3 4[a]5"}, row{"(a*){1,}", 7, "0>1 2>1 1>3 3>4 5>4 4>3 3>6", "1[a]2 4[a]5"}, row{"(a{0,2}){2}", 8, "0>1 2>1 3>1 1>4 5>4 6>4 4>7", "0[a]2 2[a]3 1[a]5 5[a]6"},
		// Of one that takes a state or more, though it says the empty word alone.
		row{"(|){2}", 4, "0>1 0>1 1>2 1>2 2>3", ""}, row{"()*{0,2}", 5, "0>1 0>2 2>2 2>1 2>3 3>3 3>1 1>4", ""}, row{"()?{1,}", 5, "0>1 0>1 1>2 2>3 2>3 3>2 2>4", ""},
		// Behind another one, and ahead.
		row{"ba{0,1}c", 6, "1>2 3>2 4>5", "0[b]1 1[a]3 2[c]4"}, row{"ba{1,}c", 7, "2>3 4>3 5>6", "0[b]1 1[a]2 3[a]4 3[c]5"}, row{"ba{0}c", 4, "2>3", "0[b]1 1[c]2"},
	)
	holdLaid(t, rep(none(), 2, 3), 6, "2>3 4>3 3>5", "")
	holdLaid(t, rep(none(), 0, -1), 4, "0>1 2>1 1>3", "")
	// Of a kid whose Weight is 0 it is as the empty word, however often.
	for _, kid := range []api.Node{e(), of(4, e(), e(), e()), rep(a(), 0, 0), rep(e(), 0, -1), of(4, rep(e(), 5, 9), rep(of(6, b()), 0, 0)), sample.Beside(4, 4000, e()), sample.Within(4000, e(), func(x api.Node) api.Node { return rep(x, 2, 3) })} {
		for _, ends := range [][2]int{{0, 0}, {0, 1}, {0, 2}, {0, -1}, {1, 1}, {1, 2}, {1, -1}, {2, 2}, {2, 4}, {2, -1}, {0, 1000}, {1000, 1000}, {1000, -1}} {
			x := rep(kid, ends[0], ends[1])
			holdLaid(t, x, 2, "0>1", "")
			holdLaid(t, of(4, a(), x, b()), 4, "2>3", "0[a]1 1[b]2")
			holdLaid(t, of(5, x, a()), 4, "0>2 1>2 2>3", "0[a]1")
			holdLaid(t, of(6, x), 3, "0>1 1>1 1>2", "")
		}
	}
}

// Sets are laid as they are, whatever is in them.
func TestP1603Sets(t *testing.T) {
	next := sample.Chances()
	for range 500 {
		s := api.Set{uint64(next(1<<60)) * 17, uint64(next(1<<60)) * 16, uint64(next(3)) << 63, uint64(next(1<<60)) * 15}
		n := made(t, api.Node{Kind: api.KindSet, Set: s})
		if want := []api.Edge{{From: 0, Set: s, To: 1}}; !slices.Equal(n.Edges, want) {
			t.Errorf("the edges of %x are %x", s, n.Edges)
		}
	}
	for place := range 256 {
		n := made(t, of(4, leaf(byte(place)), api.Node{Kind: 3, Set: sets.Not(sets.Of(byte(place)))}))
		if want := []api.Edge{{From: 0, Set: sets.Of(byte(place)), To: 1}, {From: 1, Set: sets.Not(sets.Of(byte(place))), To: 2}}; !slices.Equal(n.Edges, want) {
			t.Errorf("the edges of %d, and of all others, are %x", place, n.Edges)
		}
	}
}

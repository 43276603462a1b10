package subset

import (
	"slices"
	"strings"
	"testing"

	"doublet/api"
	"doublet/dfa"
	"doublet/sample"
	"doublet/sets"
)

// rowOf: a row of so many states, from each of which an edge leads to the next one.
func rowOf(states int, set func(state int) api.Set) api.Nfa {
	n := bare(states)
	for state := range states - 1 {
		n.Edges = append(n.Edges, api.Edge{From: state, Set: set(state), To: state + 1})
	}
	return n
}

// Rows with as many subsets as there may be, by one byte and by all bytes in turn; and with one more.
func TestGreatRows(t *testing.T) {
	t.Parallel()
	for _, width := range []int{2, 256} {
		byteAt := func(state int) byte {
			if width == 2 {
				return 'a'
			}
			return byte(state * 7)
		}
		n := rowOf(most-1, func(state int) api.Set { return sets.Of(byteAt(state)) })
		n.Accept[0], n.Accept[most-2] = 5, 3
		d, wrong := Of(n, called(6), most)
		if wrong != api.OK || !dfa.Right(d) || len(d.Label) != most || d.Width != width {
			t.Fatalf("Of tells %d, and %s", wrong, single(d))
		}
		w := make([]byte, 0, most)
		for state := range most - 1 {
			want := 0
			switch state {
			case 0:
				want = 5
			case most - 2:
				want = 3
			}
			if state%10000 == 0 || state > most-10 {
				if got := tell(d, string(w)); got != want {
					t.Errorf("behind %d bytes is told %d, want %d", state, got, want)
				}
				if got := tell(d, string(w)+string([]byte{byteAt(state) + 1})); got != 0 {
					t.Errorf("behind %d bytes and another one is told %d", state, got)
				}
			}
			w = append(w, byteAt(state))
		}
		holdSetsError(t, n, 10, api.ErrBig)
	}
	n := rowOf(most, func(state int) api.Set { return sets.Of('a') })
	holdOfError(t, n, nil, most, api.ErrBig)
	holdSetsError(t, n, most-1, api.ErrBig)
}

// Subsets of a row: each one state, and then none.
func TestGreatSets(t *testing.T) {
	t.Parallel()
	n := rowOf(most-1, func(state int) api.Set { return sets.All() })
	all, wrong := Sets(n, most)
	if wrong != api.OK || len(all) != most || len(all[most-1]) != 0 {
		t.Fatalf("Sets tells %d, and %s", wrong, several(all))
	}
	for number, subset := range all[:most-1] {
		if !slices.Equal(subset, ints(number)) {
			t.Fatalf("the subset %d is %v", number, subset)
		}
	}
	// A ring has no subset that is empty, and no more than there are states.
	n = rowOf(most, func(state int) api.Set { return sets.All() })
	n.Edges = append(n.Edges, edge(most-1, "a", 0), api.Edge{From: most - 1, Set: sets.Not(sets.Of('a')), To: 0})
	all, wrong = Sets(n, most)
	if wrong != api.OK || len(all) != most || !slices.Equal(all[most-1], ints(most-1)) {
		t.Fatalf("Sets tells %d, and %s", wrong, several(all))
	}
	holdSetsError(t, n, most-1, api.ErrBig)
}

// Subsets of very many states: all, all but the first one, and so on; with a class for each byte.
func TestGreatSubsets(t *testing.T) {
	t.Parallel()
	n := rowOf(most, func(state int) api.Set { return sets.All() })
	for state := range most {
		n.Links = append(n.Links, api.Link{From: state, To: most - 1 - state})
		n.Links = append(n.Links, api.Link{From: 0, To: state})
		n.Accept[state] = 1 + state%64
	}
	// From all states all but 0 are come to, and 0 by a link from the last one.
	holdSets(t, n, 1, upTo(0, most))
	holdOf(t, n, called(64), 1, states("", called(64), ints(1), ints(0)))

	// A class for each byte, and rows that end later and later.
	n.Links, n.Accept = nil, make([]int, most)
	for state := range most {
		n.Links = append(n.Links, api.Link{From: 0, To: state})
	}
	for b := range 256 {
		n.Edges = append(n.Edges, edge(most-1, string([]byte{byte(b)}), most-1))
	}
	holdSetsError(t, n, 3, api.ErrBig)
	// Each even state leads to the odd one behind it, and each odd one back by a; and 0 leads to all.
	n.Edges = n.Edges[most-1:]
	odd := make([]int, 0, most/2)
	for state := range most {
		if state%2 == 0 {
			n.Edges = append(n.Edges, all(state, state+1))
			continue
		}
		n.Edges = append(n.Edges, edge(state, "a", state-1))
		odd = append(odd, state)
	}
	holdSets(t, n, 4, upTo(0, most), odd, ints(most-1), ints(most-2, most-1))
	holdSetsError(t, n, 3, api.ErrBig)
}

// Tens of thousands of subsets: of rules, and of machines that have all of them.
func TestGreatCounts(t *testing.T) {
	t.Parallel()
	l := written([2]string{"x", "(a|b)*a(a|b){14}"}, [2]string{"y", "[a-z]+"}, [2]string{"z", "(a|b|c){0,9}"})
	d := made(t, l)
	if len(d.Label) < 30000 || len(dfa.Reach(d)) != len(d.Label) {
		t.Errorf("Rules tells %s", single(d))
	}
	next := sample.Chances()
	var words []string
	for range 300 {
		words = append(words, sample.AnyWord(next(40), "ab", next), sample.AnyWord(next(12), "abc", next), sample.AnyWord(next(20), "abz0", next))
	}
	holdRulesTold(t, l, d, words)
	holdRulesError(t, l, len(d.Label)-1, api.ErrBig)

	n := power(15)
	n.Accept[3], n.Accept[14] = 2, 1
	d, wrong := Of(n, called(2), most)
	if wrong != api.OK || len(d.Label) != 1<<15 {
		t.Errorf("Of tells %d, and %s", wrong, single(d))
	}
	holdTold(t, n, d, words)
	// With many states beside, at which it may not be.
	n.States, n.Accept = most, append(n.Accept, make([]int, most-15)...)
	x, wrong := Of(n, called(2), most)
	holdDfa(t, x, wrong, d, "Of with many states beside")
}

// Machines of very many subsets, and a small most: each call ends soon.
func TestGreatEndsSoon(t *testing.T) {
	t.Parallel()
	for _, n := range []api.Nfa{power(most / 2), power(most), ofTrees(t, read("(a|b)*a(a|b){1000}"), sample.Rep(read("(a|b){0,20}"), 500, 1000))} {
		for _, room := range []int{1, 2, 3, 20} {
			holdSetsError(t, n, room, api.ErrBig)
			holdOfError(t, n, nil, room, map[bool]api.Errno{true: api.ErrBig, false: api.ErrKind}[slices.Max(n.Accept) == 0])
		}
	}
	l := written([2]string{"x", "(a|b)*a(a|b){900}"}, [2]string{"y", "(.{0,30}x?){0,500}"}, [2]string{"z", strings.Repeat("(a|b)*c", 100)})
	for _, room := range []int{1, 2, 10, 300} {
		holdRulesError(t, l, room, api.ErrBig)
	}
}

// Lists far longer than most machines', or rules', are, and trees far deeper.
func TestGreatLists(t *testing.T) {
	t.Parallel()
	const far = 1 << 20
	n := with(bare(2), edge(0, "a", 1))
	want := states("a", nil, ints(0, 0, 0), ints(1, 2), ints(1, 1), ints(1, 1))
	x := n
	x.Edges = slices.Repeat(n.Edges, far)
	holdOf(t, x, nil, 3, want)
	x.Links = slices.Repeat([]api.Link{{From: 1, To: 1}, {From: 0, To: 0}}, far)
	holdOf(t, x, nil, 3, want)
	x = n
	x.Accept = make([]int, far)
	holdOfError(t, x, nil, 3, api.ErrKind)
	holdOfError(t, n, make([]string, far), 3, api.ErrKind)
	holdOfError(t, n, called(1<<16), 3, api.ErrKind)
	holdOfError(t, n, []string{strings.Repeat("a", 1<<26)}, 3, api.ErrKind)
	holdRulesError(t, make([]api.Rule, far), 3, api.ErrKind)
	holdRulesError(t, ruled(slices.Repeat([]api.Node{a()}, 1<<16)...), 3, api.ErrKind)
	for _, x := range sample.TooGreat() {
		holdRulesError(t, ruled(a(), x), 3, api.ErrKind)
	}
}

// The greatest rules: as many states, and as many rules, as there may be.
func TestGreatRules(t *testing.T) {
	t.Parallel()
	d := made(t, ruled(sample.Exactly(most-2)))
	if len(d.Label) != most || tell(d, strings.Repeat("a", most-2)) != 1 || tell(d, strings.Repeat("a", most-3)) != 0 || tell(d, strings.Repeat("a", most-1)) != 0 {
		t.Errorf("Rules tells %s", single(d))
	}
	holdRulesError(t, ruled(sample.Exactly(most-2)), most-1, api.ErrBig)
	// 64 words, each of some thousand bytes, that part at their ends, and at their beginnings.
	for _, ahead := range []bool{false, true} {
		var l []api.Node
		for i := range 64 {
			own, row := sample.Leaf(byte(i*4)), rep(sample.Leaf('a', 'b'), 1000, 1000)
			if ahead {
				l = append(l, of(4, own, row))
			} else {
				l = append(l, of(4, row, own))
			}
		}
		d := made(t, ruled(l...))
		for i := range 64 {
			w := sample.AnyWord(1000, "ab", sample.Chances())
			own := string([]byte{byte(i * 4)})
			right, wrong := w+own, own+w
			if ahead {
				right, wrong = wrong, right
			}
			if tell(d, right) != i+1 || tell(d, wrong) != 0 || tell(d, w) != 0 {
				t.Errorf("of the word %d is told %d, and %d of others", i, tell(d, right), tell(d, wrong))
			}
		}
	}
}

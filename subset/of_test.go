package subset

import (
	"slices"
	"strings"
	"testing"

	"doublet/api"
	"doublet/sample"
	"doublet/sets"
	"doublet/texts"
)

// The classes are those of the edges' Sets, whether an edge is come to or not.
func TestP2103Classes(t *testing.T) {
	for _, r := range []struct {
		sets    []api.Set
		classes string
		width   int
	}{
		{nil, "0-255:0", 1},
		{[]api.Set{{}}, "0-255:0", 1},
		{[]api.Set{sets.All()}, "0-255:0", 1},
		{[]api.Set{{}, sets.All(), {}, sets.All()}, "0-255:0", 1},
		{[]api.Set{sets.Of('a')}, "0-96:0 97-97:1 98-255:0", 2},
		{[]api.Set{sets.Not(sets.Of('a'))}, "0-96:0 97-97:1 98-255:0", 2},
		{[]api.Set{sets.Of('a'), sets.Not(sets.Of('a'))}, "0-96:0 97-97:1 98-255:0", 2},
		{[]api.Set{sets.Of(0)}, "0-0:0 1-255:1", 2},
		{[]api.Set{sets.Of(255)}, "0-254:0 255-255:1", 2},
		{[]api.Set{sets.Of(0, 255)}, "0-0:0 1-254:1 255-255:0", 2},
		{[]api.Set{sets.Of('b'), sets.Of('a')}, "0-96:0 97-97:1 98-98:2 99-255:0", 3},
		{[]api.Set{sets.Of('a', 'b'), sets.Of('b', 'a')}, "0-96:0 97-98:1 99-255:0", 2},
		{[]api.Set{sets.Span('c', 'e'), sets.Span('a', 'c')}, "0-96:0 97-98:1 99-99:2 100-101:3 102-255:0", 4},
		{[]api.Set{sets.Span('a', 'z'), sets.Of('f', 'i'), sets.Of('i')}, "0-96:0 97-101:1 102-102:2 103-104:1 105-105:3 106-122:1 123-255:0", 4},
		{[]api.Set{sets.Span(0, 63), sets.Span(0, 127), sets.Span(0, 191)}, "0-63:0 64-127:1 128-191:2 192-255:3", 4},
		{[]api.Set{sets.All(), sets.Span(128, 255), {}}, "0-127:0 128-255:1", 2},
	} {
		n := bare(3)
		for i, s := range r.sets {
			n.Edges = append(n.Edges, api.Edge{From: i % 2 * 2, Set: s, To: i % 3})
		}
		for range 2 {
			d, wrong := Of(n, nil, most)
			if got := texts.Classes(d.Of); wrong != api.OK || got != r.classes || d.Width != r.width {
				t.Errorf("Of tells %d, width %d and the classes %s, want %d and %s, of %s", wrong, d.Width, got, r.width, r.classes, brief(n))
			}
			want, _ := model{n}.of(nil, most)
			holdOf(t, n, nil, most, want)
			slices.Reverse(n.Edges)
		}
	}
	// A class for each byte.
	n := bare(2)
	for b := range 256 {
		n.Edges = append(n.Edges, edge(b%2, string([]byte{byte(255 - b)}), 1))
	}
	d, wrong := Of(n, nil, most)
	if wrong != api.OK || d.Width != 256 || d.Of != sample.Classes(256) {
		t.Errorf("Of tells %d, width %d and the classes %v", wrong, d.Width, d.Of)
	}
	// Sets that lie at each place of very many tell bytes apart.
	for _, place := range []int{0, 1, 63, 64, 65, 500, 4999} {
		n := with(bare(1), slices.Repeat([]api.Edge{all(0, 0)}, 5000)...)
		n.Edges[place] = edge(0, "x", 0)
		if d, _ := Of(n, nil, most); d.Width != 2 || d.Of['x'] != 1 || d.Of['y'] != 0 {
			t.Errorf("with a set at %d the classes are %s", place, texts.Classes(d.Of))
		}
	}
}

// states: a machine with these rows and labels, in which each of a text's bytes, which rise, is of a class of its own, from 1 on, and all others are of 0.
func states(bytes string, names []string, labels []int, rows ...[]int) api.Dfa {
	d := api.Dfa{Width: len(bytes) + 1, Next: rows, Label: labels, Names: names}
	for i := range len(bytes) {
		d.Of[bytes[i]] = uint8(i + 1)
	}
	return d
}

func TestP2103OfWrittenOut(t *testing.T) {
	one := []string{"x"}
	holdOf(t, bare(1), nil, 2, states("", nil, ints(0, 0), ints(1), ints(1)))
	holdOf(t, with(bare(1), all(0, 0)), nil, 1, states("", nil, ints(0), ints(0)))
	holdOf(t, labelled(with(bare(1), all(0, 0)), 1), one, 1, states("", one, ints(1), ints(0)))
	holdOf(t, labelled(bare(1), 1), one, 2, states("", one, ints(1, 0), ints(1), ints(1)))
	holdOf(t, with(bare(1), edge(0, "a", 0)), one, 2, states("a", one, ints(0, 0), ints(1, 0), ints(1, 1)))
	holdOf(t, labelled(with(bare(2), edge(0, "a", 1), edge(1, "b", 0)), 0, 1), one, 3, states("ab", one, ints(0, 0, 1), ints(1, 2, 1), ints(1, 1, 1), ints(1, 1, 0)))
	// By a to 1, by b to 2, by c from both to 3.
	n := labelled(with(bare(4), edge(0, "a", 1), edge(0, "b", 2), edge(1, "c", 3), edge(2, "c", 3)), 0, 2, 1, 3)
	names := []string{"p", "q", "r"}
	holdOf(t, n, names, 5, states("abc", names, ints(0, 0, 2, 1, 3), ints(1, 2, 3, 1), ints(1, 1, 1, 1), ints(1, 1, 1, 4), ints(1, 1, 1, 4), ints(1, 1, 1, 1)))
	// By several bytes of one class, and of two, to one subset; back to the start; links.
	n = labelled(with(linked(4, 1, 3), edge(0, "ab", 1), edge(0, "c", 1), edge(1, "c", 0), edge(3, "c", 3)), 0, 0, 0, 1)
	d := states("ac", one, ints(0, 0, 1, 1), ints(1, 2, 2), ints(1, 1, 1), ints(1, 1, 3), ints(1, 2, 2))
	d.Of['b'] = 1
	holdOf(t, n, one, 4, d)
	// The byte 0 leads on, and the start has a label.
	n = labelled(from(1, with(bare(2), edge(1, "\x00", 0))), 2, 1)
	d = api.Dfa{Width: 2, Next: lists(ints(1, 2), ints(2, 2), ints(2, 2)), Label: ints(1, 2, 0), Names: names}
	for b := 1; b < 256; b++ {
		d.Of[b] = 1
	}
	holdOf(t, n, names, 3, d)
}

// The chapter's example, by its rules and by their machine.
func TestP2103Example(t *testing.T) {
	names := []string{"a", "b"}
	want := states("xy", names, ints(0, 0, 1, 1), ints(1, 2, 1), ints(1, 1, 1), ints(1, 1, 3), ints(1, 1, 1))
	holdOf(t, ofTrees(t, read("x|xy"), read("xy")), names, 4, want)
	holdRules(t, written([2]string{"a", "x|xy"}, [2]string{"b", "xy"}), 4, want)
	holdRulesError(t, written([2]string{"a", "x|xy"}, [2]string{"b", "xy"}), 3, api.ErrBig)
	// The other way round both words are told other names.
	want = states("xy", []string{"b", "a"}, ints(0, 0, 2, 1), ints(1, 2, 1), ints(1, 1, 1), ints(1, 1, 3), ints(1, 1, 1))
	holdRules(t, written([2]string{"b", "xy"}, [2]string{"a", "x|xy"}), 4, want)
}

// The least label of a subset's states, whichever of them has it; 0 is none, and does not count.
func TestP2103LeastLabel(t *testing.T) {
	t.Parallel()
	for _, r := range []struct {
		labels []int
		want   int
	}{
		{ints(0, 0, 0), 0}, {ints(1, 0, 0), 1}, {ints(0, 1, 0), 1}, {ints(0, 0, 1), 1}, {ints(64, 0, 0), 64}, {ints(0, 64, 0), 64}, {ints(0, 0, 64), 64}, {ints(64, 64, 64), 64}, {ints(64, 63, 64), 63}, {ints(3, 2, 1), 1}, {ints(1, 2, 3), 1}, {ints(2, 1, 3), 1}, {ints(2, 3, 2), 2}, {ints(0, 3, 2), 2}, {ints(5, 0, 4), 4}, {ints(64, 1, 0), 1}, {ints(0, 64, 63), 63}, {ints(10, 9, 0), 9}, {ints(7, 7, 0), 7},
	} {
		// The three are come to by a; the state 3, with whatever label, is the start, and 4 is not come to.
		for _, other := range []int{0, 1, 64} {
			n := labelled(from(3, with(bare(5), edge(3, "a", 0), edge(3, "a", 1), edge(3, "a", 2))), append(slices.Clone(r.labels), other, 1)...)
			holdOf(t, n, called(64), 3, states("a", called(64), ints(other, 0, r.want), ints(1, 2), ints(1, 1), ints(1, 1)))
			// All at the start, by links.
			n = labelled(linked(5, 0, 2, 2, 1), append(slices.Clone(r.labels), other, 1)...)
			holdOf(t, n, called(64), 2, states("", called(64), ints(r.want, 0), ints(1), ints(1)))
		}
	}
	// Each label, alone and with each other one.
	for one := range 65 {
		for other := range 65 {
			want := min(one, other)
			if want == 0 {
				want = max(one, other)
			}
			n := labelled(linked(2, 0, 1), one, other)
			holdOf(t, n, called(64), 2, states("", called(64), ints(want, 0), ints(1), ints(1)))
		}
	}
	// Among very many states one has it.
	for _, place := range []int{0, 1, 63, 64, 65, 999} {
		n := bare(1000)
		for state := range 1000 {
			n.Links = append(n.Links, api.Link{From: 0, To: state})
			n.Accept[state] = 2 + state%63
		}
		n.Accept[place] = 1
		holdOf(t, n, called(64), 2, states("", called(64), ints(1, 0), ints(1), ints(1)))
	}
}

// Names: none, as many as labels, more of them, as many as there may be; and one more, two that are the same, and such as are none, wherever they stand.
func TestP2103Names(t *testing.T) {
	t.Parallel()
	n := with(bare(2), edge(0, "a", 1))
	for _, top := range []int{0, 1, 2, 3, 62, 63, 64} {
		n.Accept = ints(0, top)
		want := states("a", nil, ints(0, 0, top), ints(1, 2), ints(1, 1), ints(1, 1))
		for many := top; many <= 64; many++ {
			want.Names = called(many)
			holdOf(t, n, called(many), 3, want)
		}
		for _, many := range []int{65, 66, 128, 1000} {
			holdOfError(t, n, called(many), 3, api.ErrKind)
		}
		// A label above how many names there are.
		for many := range top {
			holdOfError(t, n, called(many), 3, api.ErrKind)
		}
	}
	n.Accept = ints(0, 1)
	want := states("a", nil, ints(0, 0, 1), ints(1, 2), ints(1, 1), ints(1, 1))
	for _, many := range []int{1, 2, 3, 10, 64} {
		for place := range many {
			want.Names = called(many)
			for _, name := range []string{"A", "z", "_", "_0", "Z9_", strings.Repeat("a", 31), strings.Repeat("a", 32), strings.Repeat("_", 32), "A" + strings.Repeat("9", 31)} {
				// The names of called are all lower case, but for the third one.
				if slices.Contains(called(many), name) {
					continue
				}
				want.Names[place] = name
				holdOf(t, n, want.Names, 3, want)
			}
			for _, name := range append(sample.WrongNames(), strings.Repeat("a", 33), strings.Repeat("a", 64)) {
				names := called(many)
				names[place] = name
				holdOfError(t, n, names, 3, api.ErrKind)
			}
			for other := range many {
				if names := called(many); other != place {
					names[place] = names[other]
					holdOfError(t, n, names, 3, api.ErrKind)
				}
			}
		}
	}
}

// The greatest label, wherever it stands: also at a state that no subset has, and at one that another label hides.
func TestP2103LabelsAboveNames(t *testing.T) {
	for _, states := range []int{1, 2, 5, 64, 65, 1000} {
		for _, place := range []int{0, states / 2, states - 1} {
			for _, start := range []int{0, states - 1} {
				for _, n := range []api.Nfa{bare(states), linked(states, 0, states-1, states-1, 0), with(bare(states), all(start, states/2))} {
					for _, label := range []int{1, 2, 3, 63, 64} {
						n = labelled(from(start, n), slices.Repeat([]int{1}, states)...)
						n.Accept[place] = label
						for _, many := range []int{label - 1, label, min(label+1, 64)} {
							if many < slices.Max(n.Accept) {
								holdOfError(t, n, called(many), 4, api.ErrKind)
								continue
							}
							want, _ := model{n}.of(called(many), 4)
							holdOf(t, n, called(many), 4, want)
						}
					}
				}
			}
		}
	}
}

// Machines that may not be, for whatever fault, whatever names there are, and most is.
func TestP2103ErrKind(t *testing.T) {
	t.Parallel()
	for n := range sample.WrongMachines() {
		for _, names := range [][]string{nil, called(64), called(65), {"9"}} {
			for _, room := range []int{most, 1, 0, greatest} {
				holdOfError(t, n, names, room, api.ErrKind)
			}
		}
		if t.Failed() {
			return
		}
	}
}

// Which error comes where several things are wrong: the machine, names and labels, then most, then how many subsets there are.
func TestP2103WhichError(t *testing.T) {
	right := labelled(with(bare(3), edge(0, "a", 1), edge(1, "b", 2)), 0, 0, 2)
	many := labelled(power(20), 1, 2)
	for _, m := range []struct {
		n   api.Nfa
		may bool
	}{{right, true}, {many, true}, {from(3, right), false}, {from(-1, many), false}, {with(right, edge(3, "a", 0)), false}, {with(right, edge(0, "a", 3)), false}, {labelled(right, -1), false}, {labelled(many, 65), false}, {api.Nfa{}, false}} {
		for _, r := range []struct {
			names []string
			may   bool
		}{{[]string{"x", "y"}, true}, {called(64), true}, {[]string{"x", "x"}, false}, {[]string{"x", ""}, false}, {[]string{"x", "9"}, false}, {[]string{"x"}, false}, {nil, false}, {called(65), false}} {
			for _, room := range []int{1, 3, 4, 5, 100, most, most + 1, 0, -1, least, greatest} {
				switch {
				case !m.may || !r.may:
					holdOfError(t, m.n, r.names, room, api.ErrKind)
				case room < 1 || room > most:
					holdOfError(t, m.n, r.names, room, api.ErrArg)
				case room < 4 || m.n.States == 20:
					holdOfError(t, m.n, r.names, min(room, 100), api.ErrBig)
				default:
					holdOf(t, m.n, r.names, room, states("ab", r.names, ints(0, 0, 0, 2), ints(1, 2, 1), ints(1, 1, 1), ints(1, 1, 3), ints(1, 1, 1)))
				}
			}
		}
	}
}

// Each row is the numbers of what stands behind, by each class: machines of as many classes as there are bytes, in whatever order.
func TestP2103Rows(t *testing.T) {
	t.Parallel()
	for _, width := range []int{1, 2, 3, 64, 65, 255, 256} {
		for _, step := range []int{1, 3, 101, 255} {
			// By the class c the state goes on by (c*step)%256: each subset is one state.
			n := bare(256)
			of := sample.Classes(width)
			byClass := make([]api.Set, width)
			for b := range 256 {
				byClass[of[b]] = sets.Union(byClass[of[b]], sets.Of(byte(b)))
			}
			for state := range 256 {
				for class, set := range byClass {
					n.Edges = append(n.Edges, api.Edge{From: state, Set: set, To: (state + class*step + 1) % 256})
				}
			}
			got, wrong := Of(n, nil, most)
			all, _ := Sets(n, most)
			if wrong != api.OK || got.Width != width || got.Of != of || len(all) != 256 || len(got.Next) != 256 {
				t.Errorf("Of %d classes tells %d, and %s", width, wrong, single(got))
				continue
			}
			for number, subset := range all {
				for class, next := range got.Next[number] {
					if want := (subset[0] + class*step + 1) % 256; all[next][0] != want {
						t.Errorf("behind %v stands by %d %v, want %d", subset, class, all[next], want)
					}
				}
			}
		}
	}
}

// A state for each subset of Sets, in its order.
func TestP2103StatesAreSubsets(t *testing.T) {
	t.Parallel()
	next := sample.Chances()
	states := 0
	for range 400 {
		n := anyNfa(1+next(12), next)
		all, wrong := Sets(n, 500)
		d, other := Of(n, called(64), 500)
		if wrong != other || len(d.Label) != len(all) {
			t.Errorf("Sets tells %d and %d subsets, Of %d and %d states", wrong, len(all), other, len(d.Label))
		}
		m := model{n}
		_, leasts := m.classes()
		for number, subset := range all {
			text := strings.Repeat("0", n.States)
			for _, state := range subset {
				text = put(text, state)
			}
			for class, b := range leasts {
				behind := strings.Repeat("0", n.States)
				for _, state := range all[d.Next[number][class]] {
					behind = put(behind, state)
				}
				if want := m.step(text, b); behind != want {
					t.Errorf("of %s behind %d stands by %d %s, want %s", brief(n), number, class, behind, want)
				}
			}
		}
		if states += len(all); t.Failed() {
			return
		}
	}
	if states < 3000 {
		t.Errorf("there are only %d subsets", states)
	}
}

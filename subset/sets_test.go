package subset

import (
	"slices"
	"strings"
	"testing"

	"doublet/api"
	"doublet/sample"
	"doublet/sets"
)

// row is a machine, and its subsets.
type row struct {
	n    api.Nfa
	want [][]int
}

// oneState: machines of one state.
func oneState() []row {
	return []row{
		{bare(1), lists(ints(0), ints())},
		{linked(1, 0, 0), lists(ints(0), ints())},
		{linked(1, 0, 0, 0, 0, 0, 0), lists(ints(0), ints())},
		{with(bare(1), all(0, 0)), lists(ints(0))},
		{with(linked(1, 0, 0), all(0, 0), all(0, 0)), lists(ints(0))},
		{with(bare(1), edge(0, "", 0)), lists(ints(0), ints())},
		{with(bare(1), edge(0, "a", 0)), lists(ints(0), ints())},
		{with(bare(1), edge(0, "\x00", 0)), lists(ints(0), ints())},
		{with(bare(1), edge(0, "a", 0), api.Edge{Set: sets.Not(sets.Of('a'))}), lists(ints(0))},
		{labelled(bare(1), 64), lists(ints(0), ints())},
		{labelled(with(bare(1), all(0, 0)), 1), lists(ints(0))},
	}
}

// withoutEdges: machines without edges, or without such as lead anywhere.
func withoutEdges() []row {
	return []row{
		{bare(2), lists(ints(0), ints())},
		{from(1, bare(2)), lists(ints(1), ints())},
		{from(2, bare(5)), lists(ints(2), ints())},
		// Links from the start, on and on; and such as lead to it alone, or stand elsewhere.
		{linked(4, 0, 2), lists(ints(0, 2), ints())},
		{linked(4, 2, 0), lists(ints(0), ints())},
		{linked(4, 1, 2, 2, 3), lists(ints(0), ints())},
		{from(3, linked(4, 3, 1, 1, 0)), lists(ints(0, 1, 3), ints())},
		{from(1, linked(4, 3, 1, 1, 0)), lists(ints(0, 1), ints())},
		// Rings: through the start, and others; such as are come to, and such as are not.
		{linked(3, 0, 1, 1, 2, 2, 0), lists(ints(0, 1, 2), ints())},
		{from(1, linked(3, 0, 1, 1, 2, 2, 0)), lists(ints(0, 1, 2), ints())},
		{linked(5, 0, 3, 3, 4, 4, 3), lists(ints(0, 3, 4), ints())},
		{linked(5, 3, 4, 4, 3, 3, 0), lists(ints(0), ints())},
		{linked(3, 0, 0, 1, 1, 2, 2), lists(ints(0), ints())},
		{with(bare(3), edge(0, "", 1), edge(1, "", 2)), lists(ints(0), ints())},
		{with(bare(3), edge(1, "ab", 2), edge(2, "c", 0)), lists(ints(0), ints())},
		{with(linked(3, 0, 2), edge(1, "ab", 2), all(1, 0)), lists(ints(0, 2), ints())},
	}
}

// withoutLinks: machines with edges alone.
func withoutLinks() []row {
	return []row{
		{with(bare(2), edge(0, "a", 1)), lists(ints(0), ints(), ints(1))},
		// The byte 0 is of the first class; behind it stands what is met first.
		{with(bare(2), edge(0, "\x00", 1)), lists(ints(0), ints(1), ints())},
		{with(bare(2), edge(0, "\x00\x01\x02", 1)), lists(ints(0), ints(1), ints())},
		{with(bare(2), edge(0, "\xff", 1)), lists(ints(0), ints(), ints(1))},
		{with(bare(2), api.Edge{Set: sets.Not(sets.Of(0)), To: 1}), lists(ints(0), ints(), ints(1))},
		{with(bare(2), api.Edge{Set: sets.Not(sets.Of(255)), To: 1}), lists(ints(0), ints(1), ints())},
		// Nowhere is met once, or never.
		{with(bare(2), all(0, 1), all(1, 0)), lists(ints(0), ints(1))},
		{with(bare(2), all(0, 1), all(1, 1)), lists(ints(0), ints(1))},
		{with(bare(2), all(0, 1)), lists(ints(0), ints(1), ints())},
		{with(bare(3), all(0, 1), all(1, 2)), lists(ints(0), ints(1), ints(2), ints())},
		{with(bare(3), all(0, 1), all(0, 2)), lists(ints(0), ints(1, 2), ints())},
		{from(2, with(bare(3), all(2, 0), all(0, 1), all(1, 2))), lists(ints(2), ints(0), ints(1))},
		// The start comes again, alone and with others.
		{with(bare(2), edge(0, "a", 1), edge(1, "a", 0)), lists(ints(0), ints(), ints(1))},
		{with(bare(2), edge(0, "a", 1), edge(0, "a", 0)), lists(ints(0), ints(), ints(0, 1))},
		{with(bare(2), edge(0, "a", 1), edge(0, "a", 0), edge(1, "b", 0)), lists(ints(0), ints(), ints(0, 1))},
		// By the classes, not by the edges, nor by the states.
		{with(bare(4), edge(0, "c", 1), edge(0, "b", 2), edge(0, "a", 3)), lists(ints(0), ints(), ints(3), ints(2), ints(1))},
		{with(bare(4), edge(0, "a", 3), edge(0, "c", 1), edge(0, "b", 2)), lists(ints(0), ints(), ints(3), ints(2), ints(1))},
		{with(bare(4), edge(0, "\x00", 2), edge(0, "a", 1)), lists(ints(0), ints(2), ints(), ints(1))},
		{with(bare(4), edge(0, "\x05", 3), api.Edge{Set: sets.Span(0, 4), To: 2}, edge(0, "\x07", 1)), lists(ints(0), ints(2), ints(3), ints(), ints(1))},
		// The classes are those of all edges, but a class that leads to what was met tells nothing new.
		{with(bare(4), edge(0, "ab", 1), edge(1, "a", 2), edge(1, "b", 3)), lists(ints(0), ints(), ints(1), ints(2), ints(3))},
		{with(bare(4), edge(0, "ab", 1), edge(0, "bc", 2)), lists(ints(0), ints(), ints(1), ints(1, 2), ints(2))},
		{with(bare(5), edge(0, "abc", 1), edge(0, "bcd", 2), edge(0, "ce", 3)), lists(ints(0), ints(), ints(1), ints(1, 2), ints(1, 2, 3), ints(2), ints(3))},
		// Behind the ones ahead first, and then behind those that are met.
		{with(bare(6), edge(0, "b", 1), edge(0, "a", 2), edge(2, "b", 3), edge(1, "a", 4), edge(2, "a", 5)), lists(ints(0), ints(), ints(2), ints(1), ints(5), ints(3), ints(4))},
		{with(bare(7), edge(0, "a", 1), edge(0, "b", 2), edge(1, "b", 3), edge(2, "a", 4), edge(3, "a", 5), edge(4, "a", 6)), lists(ints(0), ints(), ints(1), ints(2), ints(3), ints(4), ints(5), ints(6))},
		// Two ways lead to one subset, from one and from two; it is met once.
		{with(bare(4), edge(0, "a", 1), edge(0, "b", 2), edge(1, "c", 3), edge(2, "c", 3)), lists(ints(0), ints(), ints(1), ints(2), ints(3))},
		{with(bare(4), edge(0, "a", 1), edge(0, "b", 1), edge(1, "a", 1), edge(1, "b", 0)), lists(ints(0), ints(), ints(1))},
		{with(bare(4), edge(0, "a", 1), edge(0, "a", 2), edge(0, "b", 2), edge(0, "b", 1), edge(1, "a", 2), edge(2, "a", 1)), lists(ints(0), ints(), ints(1, 2))},
		{with(bare(4), edge(0, "b", 3), edge(3, "a", 1), edge(0, "a", 2), edge(2, "a", 1), edge(2, "b", 3)), lists(ints(0), ints(), ints(2), ints(3), ints(1))},
		// One edge again and again.
		{with(bare(2), slices.Repeat([]api.Edge{edge(0, "a", 1)}, 500)...), lists(ints(0), ints(), ints(1))},
		// All states but the start at once.
		{with(bare(4), edge(0, "a", 3), edge(0, "a", 1), edge(0, "a", 2), edge(2, "b", 2)), lists(ints(0), ints(), ints(1, 2, 3), ints(2))},
	}
}

// withBoth: machines with links and edges.
func withBoth() []row {
	return []row{
		{with(linked(2, 0, 1), edge(1, "a", 0)), lists(ints(0, 1), ints())},
		{with(linked(2, 0, 1), edge(0, "a", 1)), lists(ints(0, 1), ints(), ints(1))},
		{with(linked(3, 1, 2), edge(0, "a", 1)), lists(ints(0), ints(), ints(1, 2))},
		{with(linked(3, 1, 2, 2, 1), edge(0, "a", 1), edge(0, "b", 2)), lists(ints(0), ints(), ints(1, 2))},
		{with(linked(4, 1, 2, 2, 3, 3, 1), edge(0, "a", 2), edge(3, "a", 0)), lists(ints(0), ints(), ints(1, 2, 3))},
		{with(linked(4, 1, 2, 2, 0), edge(0, "a", 1), edge(0, "b", 3)), lists(ints(0), ints(), ints(0, 1, 2), ints(3))},
		// Links behind an edge are gone through, such as stand ahead of it are not but from the start.
		{with(linked(4, 0, 1, 2, 3), edge(1, "a", 2)), lists(ints(0, 1), ints(), ints(2, 3))},
		{with(linked(4, 2, 1, 1, 3), edge(0, "a", 1), edge(0, "b", 2)), lists(ints(0), ints(), ints(1, 3), ints(1, 2, 3))},
		{with(linked(3, 0, 0, 1, 1, 2, 2), edge(0, "a", 1), edge(1, "a", 2)), lists(ints(0), ints(), ints(1), ints(2))},
		// A ring of links through what edges lead out of.
		{with(linked(4, 0, 1, 1, 2, 2, 0), edge(1, "a", 3), edge(2, "b", 3), edge(3, "b", 1)), lists(ints(0, 1, 2), ints(), ints(3))},
		{from(3, with(linked(4, 3, 1, 1, 0), edge(0, "a", 2), edge(2, "a", 3), edge(2, "b", 1))), lists(ints(0, 1, 3), ints(), ints(2), ints(0, 1))},
	}
}

func TestP2102SetsWrittenOut(t *testing.T) {
	for _, some := range [][]row{oneState(), withoutEdges(), withoutLinks(), withBoth()} {
		for _, r := range some {
			d, _ := model{r.n}.of(called(64), most)
			holdRoom(t, r.n, called(64), r.want, d)
			// Neither the order of edges, nor labels, count.
			turned := r.n
			turned.Edges, turned.Links = slices.Clone(r.n.Edges), slices.Clone(r.n.Links)
			slices.Reverse(turned.Edges)
			slices.Reverse(turned.Links)
			turned.Accept = slices.Repeat([]int{7}, r.n.States)
			holdSets(t, turned, most, r.want...)
			// Nor do states at which the machine may not be.
			more := turned
			more.States, more.Accept = r.n.States+100, make([]int, r.n.States+100)
			more.Edges = append(more.Edges, slices.Repeat(more.Edges[:min(len(more.Edges), 1)], 50)...)
			for i := range more.Edges[len(r.n.Edges):] {
				more.Edges[len(r.n.Edges)+i].From = r.n.States + i
			}
			holdSets(t, more, most, r.want...)
		}
	}
}

// The chapter's example: the machine of its rules has these states, and four subsets.
func TestP2102Example(t *testing.T) {
	n := ofTrees(t, read("x|xy"), read("xy"))
	d, _ := model{n}.of([]string{"a", "b"}, 4)
	holdRoom(t, n, []string{"a", "b"}, lists(ints(0), ints(), ints(1, 2, 4, 5, 6), ints(3, 4, 5, 7, 8)), d)
	// Other machines of trees.
	holdSets(t, ofTrees(t), 2, ints(0), ints())
	holdSets(t, ofTrees(t, none()), 2, ints(0), ints())
	holdSets(t, ofTrees(t, hole()), 2, ints(0), ints())
	holdSets(t, ofTrees(t, e()), 2, ints(0, 1), ints())
	holdSets(t, ofTrees(t, a()), 3, ints(0), ints(), ints(1, 2))
	holdSets(t, ofTrees(t, read("a*")), 3, ints(0, 1, 3), ints(), ints(1, 2, 3))
	holdSets(t, ofTrees(t, read("a+b")), 4, ints(0, 1), ints(), ints(1, 2), ints(3, 4))
	holdSets(t, ofTrees(t, read("(a|b)*")), 4, ints(0, 1, 5), ints(), ints(1, 2, 4, 5), ints(1, 3, 4, 5))
	holdSets(t, ofTrees(t, rep(a(), 2, 3)), 5, ints(0), ints(), ints(1), ints(2, 3, 5), ints(3, 4, 5))
}

// Numbers of states about the edges of words of bits, two of them alone and together.
func TestP2102GreatNumbers(t *testing.T) {
	t.Parallel()
	for _, states := range []int{64, 65, 66, 127, 128, 129, 130, 192, 193, 1000, 4097, 65535, 65536} {
		var numbers []int
		for _, number := range []int{1, 2, 61, 62, 63, 64, 65, 66, 126, 127, 128, 129, 191, 192, 256, 4095, 4096, 32768, states - 2, states - 1} {
			if number < states && !slices.Contains(numbers, number) {
				numbers = append(numbers, number)
			}
		}
		for _, one := range numbers {
			for _, other := range numbers {
				if one >= other || states > 1000 && other-one > 1 && other != states-1 {
					continue
				}
				n := with(bare(states), edge(0, "ac", one), edge(0, "bc", other), edge(one, "e", 0), edge(other, "c", other), edge(one, "d", one), edge(one, "d", 0))
				holdSets(t, n, 6, ints(0), ints(), ints(one), ints(other), ints(one, other), ints(0, one))
				holdSetsError(t, n, 5, api.ErrBig)
				// The start is one of them.
				n = from(other, with(linked(states, other, one, one, 0), edge(0, "a", one)))
				holdSets(t, n, 3, ints(0, one, other), ints(), ints(0, one))
			}
		}
	}
}

// All states of one subset, but for one, and each alone.
func TestP2102EachStateLeftOut(t *testing.T) {
	t.Parallel()
	for _, states := range []int{3, 63, 64, 65, 128, 130, 255} {
		n := bare(states)
		want := lists(ints(0))
		for state := range states {
			n.Edges = append(n.Edges, api.Edge{Set: sets.Less(sets.Span(0, byte(states-1)), sets.Of(byte(state))), To: state})
			want = append(want, slices.DeleteFunc(upTo(0, states), func(other int) bool { return other == state }))
		}
		want = append(want, ints())
		holdSets(t, n, len(want), want...)

		n = bare(states)
		want = lists(ints(0))
		for state := range states {
			n.Edges = append(n.Edges, edge(0, string([]byte{byte(state)}), state))
			if state > 0 {
				want = append(want, ints(state))
			}
		}
		want = append(want, ints())
		holdSets(t, n, len(want), want...)
	}
}

// As many classes as there are bytes: each leads to another state, in whatever order.
func TestP2102EveryClass(t *testing.T) {
	t.Parallel()
	for _, step := range []int{1, 3, 101, 255} {
		n := bare(257)
		want := lists(ints(0))
		for b := range 256 {
			to := 1 + (b*step+7)%256
			n.Edges = append(n.Edges, edge(0, string([]byte{byte(b)}), to), edge(to, string([]byte{byte(b)}), 0))
			want = append(want, ints(to))
		}
		want = append(want, ints())
		holdSets(t, n, 258, want...)
		slices.Reverse(n.Edges)
		holdSets(t, n, 258, want...)
		holdSetsError(t, n, 257, api.ErrBig)
	}
}

// Machines that may not be, for whatever fault, also where most is wrong as well.
func TestP2102ErrKind(t *testing.T) {
	t.Parallel()
	for n := range sample.WrongMachines() {
		for _, room := range []int{most, 1, 0, most + 1, least} {
			holdSetsError(t, n, room, api.ErrKind)
		}
		if t.Failed() {
			return
		}
	}
}

// Numbers that are from 1 to MaxStates, and others.
func TestP2102ErrArg(t *testing.T) {
	few, big := with(bare(1), all(0, 0)), power(20)
	for _, room := range []int{least, least + 1, -1 << 32, -most, -2, -1, 0, most + 1, most + 2, 2 * most, 1 << 31, 1 << 32, 1<<32 + 1, greatest - 1, greatest} {
		holdSetsError(t, few, room, api.ErrArg)
		holdSetsError(t, big, room, api.ErrArg)
		holdSetsError(t, bare(1<<15), room, api.ErrArg)
	}
	for _, room := range []int{1, 2, 3, 100, 255, 256, most / 2, most - 1, most} {
		holdSets(t, few, room, ints(0))
		if room > 1 {
			holdSets(t, bare(1<<15), room, ints(0), ints())
		}
		if room < 1000 {
			holdSetsError(t, big, room, api.ErrBig)
		}
	}
}

// So many subsets as most, one more and one less: of rows of each length, and of machines with far more.
func TestP2102ErrBig(t *testing.T) {
	t.Parallel()
	for _, length := range []int{1, 2, 3, 10, 63, 64, 100} {
		n := bare(length)
		want := lists(ints(0), ints())
		for state := 1; state < length; state++ {
			n.Edges = append(n.Edges, edge(state-1, "a", state))
			want = append(want, ints(state))
		}
		for room := 1; room < length+4; room++ {
			if room <= length {
				holdSetsError(t, n, room, api.ErrBig)
			} else {
				holdSets(t, n, room, want...)
			}
		}
	}
	// Many are behind one: more of them than there is room, from the first class to the last.
	n := bare(257)
	for b := range 256 {
		n.Edges = append(n.Edges, edge(0, string([]byte{byte(b)}), b+1))
	}
	for room := 1; room < 258; room++ {
		holdSetsError(t, n, room, api.ErrBig)
	}
	if got, wrong := Sets(n, 258); wrong != api.OK || len(got) != 258 || len(got[257]) != 0 {
		t.Errorf("Sets tells %d, and %d subsets", wrong, len(got))
	}
	for _, room := range []int{1, 2, 10, 1000} {
		for _, tree := range []string{"(a|b)*a(a|b){20}", "(a|b)*a(a|b){500}", "([a-z]|0)*q[a-z0-9]{900}", strings.Repeat("(.{0,9})*", 50) + "x.{99}"} {
			if n := ofTrees(t, read(tree)); room < 1000 || n.States < 2000 {
				holdSetsError(t, n, room, api.ErrBig)
			}
		}
		holdSetsError(t, power(20), room, api.ErrBig)
		holdSetsError(t, power(400), room, api.ErrBig)
	}
}

// Each subset comes once, and what stands behind each one by each byte is one of them.
func TestP2102Closed(t *testing.T) {
	t.Parallel()
	next := sample.Chances()
	count := 0
	for range 300 {
		n := anyNfa(1+next(12), next)
		got, wrong := Sets(n, 400)
		if wrong != api.OK {
			continue
		}
		m := model{n}
		met := map[string]int{}
		for number, some := range got {
			states := strings.Repeat("0", n.States)
			for _, state := range some {
				states = put(states, state)
			}
			if _, ok := met[states]; ok || !slices.IsSorted(some) {
				t.Errorf("of %s the subset %d is %v", brief(n), number, some)
			}
			met[states] = number
		}
		if met[m.start()] != 0 {
			t.Errorf("of %s the first subset is %v", brief(n), got[0])
		}
		for states := range met {
			for b := range 256 {
				if _, ok := met[m.step(states, b)]; !ok {
					t.Errorf("of %s there is none behind %s by %d", brief(n), states, b)
				}
			}
		}
		if count += len(got); t.Failed() {
			return
		}
	}
	if count < 1500 {
		t.Errorf("there are only %d subsets", count)
	}
}

package subset

import (
	"slices"
	"strings"
	"testing"

	"doublet/api"
	"doublet/sample"
	"doublet/tree"
)

func TestP2104RulesWrittenOut(t *testing.T) {
	x, y := "x", "y"
	// No rules: the start, and nowhere.
	holdRules(t, nil, 2, states("", nil, ints(0, 0), ints(1), ints(1)))
	holdRules(t, []api.Rule{}, most, states("", nil, ints(0, 0), ints(1), ints(1)))
	holdRulesError(t, nil, 1, api.ErrBig)
	holdRulesError(t, nil, 0, api.ErrArg)
	// One.
	one := []string{x}
	holdRules(t, written([2]string{x, "a"}), 3, states("a", one, ints(0, 0, 1), ints(1, 2), ints(1, 1), ints(1, 1)))
	holdRules(t, written([2]string{x, "ab"}), 4, states("ab", one, ints(0, 0, 0, 1), ints(1, 2, 1), ints(1, 1, 1), ints(1, 1, 3), ints(1, 1, 1)))
	holdRules(t, written([2]string{x, "a*"}), 3, states("a", one, ints(1, 0, 1), ints(1, 2), ints(1, 1), ints(1, 2)))
	holdRules(t, written([2]string{x, "(a|b)+"}), 4, states("ab", one, ints(0, 0, 1, 1), ints(1, 2, 3), ints(1, 1, 1), ints(1, 2, 3), ints(1, 2, 3)))
	holdRules(t, written([2]string{x, `[^\n]|\n`}), 4, api.Dfa{Of: states("\n", nil, nil).Of, Width: 2, Next: lists(ints(1, 2), ints(3, 3), ints(3, 3), ints(3, 3)), Label: ints(0, 1, 1, 0), Names: one})
	// The empty word alone, and no word.
	holdRules(t, written([2]string{x, ""}), 2, states("", one, ints(1, 0), ints(1), ints(1)))
	holdRules(t, ruled(none()), 2, states("", called(1), ints(0, 0), ints(1), ints(1)))
	holdRules(t, ruled(hole()), 2, states("", called(1), ints(0, 0), ints(1), ints(1)))
	holdRules(t, ruled(of(4, a(), hole())), 3, states("a", called(1), ints(0, 0, 0), ints(1, 2), ints(1, 1), ints(1, 1)))
	// Two.
	two := []string{x, y}
	holdRules(t, written([2]string{x, "a"}, [2]string{y, "b"}), 4, states("ab", two, ints(0, 0, 1, 2), ints(1, 2, 3), ints(1, 1, 1), ints(1, 1, 1), ints(1, 1, 1)))
	holdRules(t, written([2]string{x, "b"}, [2]string{y, "a"}), 4, states("ab", two, ints(0, 0, 2, 1), ints(1, 2, 3), ints(1, 1, 1), ints(1, 1, 1), ints(1, 1, 1)))
	// Both say the same; the one says all that the other says, ahead of it and behind it.
	holdRules(t, written([2]string{x, "a"}, [2]string{y, "a"}), 3, states("a", two, ints(0, 0, 1), ints(1, 2), ints(1, 1), ints(1, 1)))
	holdRules(t, written([2]string{x, "a*"}, [2]string{y, "a"}), 4, states("a", two, ints(1, 0, 1, 1), ints(1, 2), ints(1, 1), ints(1, 3), ints(1, 3)))
	holdRules(t, written([2]string{x, "a"}, [2]string{y, "a*"}), 4, states("a", two, ints(2, 0, 1, 2), ints(1, 2), ints(1, 1), ints(1, 3), ints(1, 3)))
	// A rule that says nothing ahead of one that does; and the empty word of several.
	holdRules(t, []api.Rule{{Name: x, Body: none()}, {Name: y, Body: a()}}, 3, states("a", two, ints(0, 0, 2), ints(1, 2), ints(1, 1), ints(1, 1)))
	holdRules(t, written([2]string{x, "a"}, [2]string{y, ""}), 3, states("a", two, ints(2, 0, 1), ints(1, 2), ints(1, 1), ints(1, 1)))
	holdRules(t, written([2]string{x, ""}, [2]string{y, "a?"}), 3, states("a", two, ints(1, 0, 2), ints(1, 2), ints(1, 1), ints(1, 1)))
}

// As many rules as there may be: each says a word of its own, the same, or words of others.
func TestP2104ManyRules(t *testing.T) {
	t.Parallel()
	for _, many := range []int{1, 2, 3, 63, 64} {
		// Each a byte.
		var l []api.Node
		for i := range many {
			l = append(l, sample.Leaf(byte(100+i)))
		}
		d, wrong := Rules(ruled(l...), many+2)
		if wrong != api.OK || len(d.Label) != many+2 || d.Width != many+1 || !slices.Equal(d.Names, called(many)) || !slices.Equal(d.Label, append(ints(0, 0), upTo(1, many+1)...)) {
			t.Errorf("Rules of %d bytes tells %d, and %s", many, wrong, single(d))
		}
		holdRulesError(t, ruled(l...), many+1, api.ErrBig)
		// All the same.
		d, wrong = Rules(ruled(slices.Repeat([]api.Node{read("ab*")}, many)...), most)
		if wrong != api.OK || !slices.Equal(d.Label, ints(0, 0, 1, 1)) || !slices.Equal(d.Names, called(many)) {
			t.Errorf("Rules of %d that say the same tells %d, and %s", many, wrong, single(d))
		}
		// Each more than the one ahead, or less.
		for turn := range 2 {
			l = nil
			for i := range many {
				l = append(l, rep(a(), 0, i+1))
			}
			want := append(ints(1, 0), upTo(1, many+1)...)
			if turn == 1 {
				slices.Reverse(l)
				want = append(ints(1, 0), slices.Repeat(ints(1), many)...)
			}
			d, wrong = Rules(ruled(l...), most)
			if wrong != api.OK || !slices.Equal(d.Label, want) {
				t.Errorf("Rules of %d that say more and more, %d, tells %d, and labels %v, want %v", many, turn, wrong, d.Label, want)
			}
		}
	}
}

// Rules that may not be, for each fault, also where most is wrong as well.
func TestP2104ErrKind(t *testing.T) {
	t.Parallel()
	for l := range sample.WrongRules() {
		for _, room := range []int{most, 1, 0, most + 1, least} {
			holdRulesError(t, l, room, api.ErrKind)
		}
		if t.Failed() {
			return
		}
	}
	// A fault behind rules whose machine would be too big.
	big := sample.Exactly(65535)
	for _, rule := range []api.Rule{{Name: "", Body: a()}, {Name: "x", Body: a()}, {Name: "y", Body: api.Node{}}, {Name: "y", Body: rep(a(), 2, 1)}} {
		for _, room := range []int{most, 0} {
			holdRulesError(t, []api.Rule{{Name: "x", Body: big}, rule}, room, api.ErrKind)
			holdRulesError(t, []api.Rule{rule, {Name: "x", Body: big}}, room, api.ErrKind)
		}
	}
	// A tree that may not be at each place of others.
	for _, x := range sample.Around() {
		for place := range tree.Size(x) {
			wrong := sample.With(x, place, api.Node{})
			holdRulesError(t, ruled(wrong), 100, api.ErrKind)
			holdRulesError(t, ruled(a(), wrong), 100, api.ErrKind)
		}
	}
}

// Bodies whose machine would be too big: nfa's error, also where most is wrong; and the greatest machine.
func TestP2104ErrBig(t *testing.T) {
	t.Parallel()
	for _, l := range [][]api.Rule{
		ruled(sample.Exactly(65535)), ruled(sample.Exactly(1000000)), ruled(a(), sample.Exactly(65533)), ruled(slices.Repeat([]api.Node{sample.Exactly(1024)}, 64)...), ruled(sample.Chain(40)),
		ruled(rep(rep(rep(a(), 1000, 1000), 1000, 1000), 1000, 1000)), ruled(none(), e(), of(4, slices.Repeat([]api.Node{rep(a(), 0, 1000)}, 66)...)),
	} {
		for _, room := range []int{most, 1, 0, -1, most + 1, least, greatest} {
			holdRulesError(t, l, room, api.ErrBig)
		}
	}
	// With one state less there is a machine: most is asked then, and how many subsets there are.
	for _, room := range []int{0, -1, most + 1, least, greatest} {
		holdRulesError(t, ruled(sample.Exactly(65534)), room, api.ErrArg)
		holdRulesError(t, ruled(a()), room, api.ErrArg)
		holdRulesError(t, ruled(read("(a|b)*a(a|b){70}")), room, api.ErrArg)
	}
	for _, room := range []int{1, 2, 3, 1000} {
		holdRulesError(t, ruled(sample.Exactly(65534)), room, api.ErrBig)
		holdRulesError(t, ruled(read("(a|b)*a(a|b){70}")), room, api.ErrBig)
	}
	holdRulesError(t, ruled(read("(a|b)*a(a|b){70}")), most, api.ErrBig)
}

// Names of 32 bytes, and of one; they are told as they are, in order.
func TestP2104Names(t *testing.T) {
	names := []string{strings.Repeat("z", 32), "a", "_", strings.Repeat("Z9_a", 8), "B0", "b0"}
	var l []api.Rule
	for i, name := range names {
		l = append(l, api.Rule{Name: name, Body: sample.Leaf(byte('a' + i))})
	}
	holdRules(t, l, 8, states("abcdef", names, ints(0, 0, 1, 2, 3, 4, 5, 6), slices.Concat(ints(1), upTo(2, 8)), ints(1, 1, 1, 1, 1, 1, 1), ints(1, 1, 1, 1, 1, 1, 1), ints(1, 1, 1, 1, 1, 1, 1), ints(1, 1, 1, 1, 1, 1, 1), ints(1, 1, 1, 1, 1, 1, 1), ints(1, 1, 1, 1, 1, 1, 1), ints(1, 1, 1, 1, 1, 1, 1)))
	l[0].Name += "z"
	holdRulesError(t, l, 8, api.ErrKind)
}

// Rules is Of of the Bodies' machine, with the Names: random rules, with room enough and not.
func TestP2104RulesAsOf(t *testing.T) {
	t.Parallel()
	next := sample.Chances()
	made, big := 0, 0
	for range 800 {
		l := ruled(sample.SomeTrees(8, next)...)
		if weightOf(l) > 1500 {
			continue
		}
		names, bodies := parted(l)
		for _, room := range []int{1000, 1 + next(20)} {
			want, wrong := Of(ofTrees(t, bodies...), names, room)
			if wrong == api.OK {
				holdRules(t, l, room, want)
				made++
			} else {
				holdRulesError(t, l, room, wrong)
				big++
			}
		}
		if t.Failed() {
			return
		}
	}
	if min(made, big) < 300 {
		t.Errorf("%d machines are made, %d too big", made, big)
	}
}

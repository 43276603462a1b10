package subset

import (
	"fmt"
	"math"
	"slices"
	"testing"

	"doublet/api"
	"doublet/dfa"
	"doublet/nfa"
	"doublet/sample"
	"doublet/sets"
	"doublet/texts"
)

const (
	greatest = math.MaxInt
	least    = math.MinInt
	most     = api.MaxStates
)

// Short names for what most trees, rules and machines are made of.
var (
	a, b, e, of, rep = sample.A, sample.B, sample.Empty, sample.Of, sample.Rep
	none, hole       = sample.None, sample.Hole

	bare, linked, edge = sample.Bare, sample.Linked, sample.Edge
	called, ruled      = sample.Called, sample.Ruled

	read, front = texts.Tree, texts.Front
	upTo        = sample.UpTo
)

// brief, single, several and rules are machines in several states and in one, subsets and rules, of which a text is made where one is asked for alone.
type (
	brief   api.Nfa
	single  api.Dfa
	several [][]int
	rules   []api.Rule
)

func (n brief) String() string {
	if len(n.Accept)+len(n.Links)+len(n.Edges) > 1000 {
		return fmt.Sprintf("%d states from %d, with %d links, %d edges and %d labels", n.States, n.Start, len(n.Links), len(n.Edges), len(n.Accept))
	}
	return front(texts.Machine(api.Nfa(n)))
}
func (d single) String() string { return texts.BriefDfa(api.Dfa(d)) }
func (l several) String() string {
	return fmt.Sprintf("%d, ", len(l)) + front(fmt.Sprint([][]int(l[:min(len(l), 30)])))
}
func (l rules) String() string { return texts.Rules(l) }

// ints and lists: some numbers, and some lists of them.
func ints(l ...int) []int      { return l }
func lists(l ...[]int) [][]int { return l }

// all: an edge by all bytes.
func all(from, to int) api.Edge { return api.Edge{From: from, Set: sets.All(), To: to} }

// with: a machine with these edges, and no other ones.
func with(n api.Nfa, edges ...api.Edge) api.Nfa {
	n.Edges = edges
	return n
}

// from: one that starts elsewhere.
func from(start int, n api.Nfa) api.Nfa {
	n.Start = start
	return n
}

// labelled: one with labels for its first states.
func labelled(n api.Nfa, labels ...int) api.Nfa {
	n.Accept = slices.Clone(n.Accept)
	copy(n.Accept, labels)
	return n
}

// power: a machine that has as many subsets as one of so many states may have: by a all states are turned round by one; by b what has 0 has 1 as well, and by c not 0; by no byte of these it is nowhere.
func power(states int) api.Nfa {
	n := bare(states)
	for state := range states {
		n.Edges = append(n.Edges, edge(state, "a", (state+1)%states), edge(state, "b", state))
		if state > 0 {
			n.Edges = append(n.Edges, edge(state, "c", state))
		}
	}
	n.Edges = append(n.Edges, edge(0, "b", 1%states))
	return n
}

// ofTrees: the machine of trees.
func ofTrees(t *testing.T, l ...api.Node) api.Nfa {
	t.Helper()
	n, wrong := nfa.Of(l)
	if wrong != api.OK {
		t.Fatalf("%s have no machine: %d", texts.Several(l), wrong)
	}
	return n
}

// written: rules of texts, a name and an expression each.
func written(l ...[2]string) []api.Rule {
	var made []api.Rule
	for _, text := range l {
		made = append(made, api.Rule{Name: text[0], Body: read(text[1])})
	}
	return made
}

// parted: the names of rules, and their trees.
func parted(l []api.Rule) (names []string, bodies []api.Node) {
	for _, rule := range l {
		names, bodies = append(names, rule.Name), append(bodies, rule.Body)
	}
	return names, bodies
}

// sameSets: are the same numbers in the same lists?
func sameSets(one, other [][]int) bool { return slices.EqualFunc(one, other, slices.Equal[[]int]) }

// holdSets: a call tells just these subsets, in this order, and no error.
func holdSets(t *testing.T, n api.Nfa, room int, want ...[]int) {
	t.Helper()
	got, wrong := Sets(n, room)
	if wrong != api.OK || !sameSets(got, want) {
		t.Errorf("Sets, for %d, tells %d, and %s, want %s, of %s", room, wrong, several(got), several(want), brief(n))
	}
}

// holdSetsError: Sets tells this error, and nothing beside it.
func holdSetsError(t *testing.T, n api.Nfa, room int, want api.Errno) {
	t.Helper()
	if got, wrong := Sets(n, room); wrong != want || len(got) > 0 {
		t.Errorf("Sets, for %d, tells %d, want %d, and %s, of %s", room, wrong, want, several(got), brief(n))
	}
}

// holdDfa: a call tells just this machine, which may be, and no error.
func holdDfa(t *testing.T, got api.Dfa, wrong api.Errno, want api.Dfa, what string, about ...any) {
	t.Helper()
	if wrong != api.OK || !dfa.Same(got, want) || !dfa.Right(got) {
		t.Errorf("%s tells %d, and\n%s, want\n%s", fmt.Sprintf(what, about...), wrong, single(got), single(want))
	}
}

// holdError: a call tells just this error, and an empty machine beside it.
func holdError(t *testing.T, got api.Dfa, wrong, want api.Errno, what string, about ...any) {
	t.Helper()
	if wrong != want || !dfa.Same(got, api.Dfa{}) {
		t.Errorf("%s tells %d, want %d, and %s", fmt.Sprintf(what, about...), wrong, want, single(got))
	}
}

// holdOf and holdOfError: of a machine and names Of tells just this machine, or this error.
func holdOf(t *testing.T, n api.Nfa, names []string, room int, want api.Dfa) {
	t.Helper()
	got, wrong := Of(n, names, room)
	holdDfa(t, got, wrong, want, "Of, for %d, of %s with %d names", room, brief(n), len(names))
}

func holdOfError(t *testing.T, n api.Nfa, names []string, room int, want api.Errno) {
	t.Helper()
	got, wrong := Of(n, names, room)
	holdError(t, got, wrong, want, "Of, for %d, of %s with %d names", room, brief(n), len(names))
}

// holdRules and holdRulesError: likewise, of rules.
func holdRules(t *testing.T, l []api.Rule, room int, want api.Dfa) {
	t.Helper()
	got, wrong := Rules(l, room)
	holdDfa(t, got, wrong, want, "Rules, for %d, of %s", room, rules(l))
}

func holdRulesError(t *testing.T, l []api.Rule, room int, want api.Errno) {
	t.Helper()
	got, wrong := Rules(l, room)
	holdError(t, got, wrong, want, "Rules, for %d, of %s", room, rules(l))
}

// holdRoom: of so many subsets each call takes as many, and more, and tells what it told; with less room there is none.
func holdRoom(t *testing.T, n api.Nfa, names []string, sets [][]int, d api.Dfa) {
	t.Helper()
	count := len(sets)
	for _, room := range []int{count, count + 1, 2 * count, most - 1, most} {
		if room >= count && room <= most {
			holdSets(t, n, room, sets...)
			holdOf(t, n, names, room, d)
		}
	}
	for _, room := range []int{count - 1, count - 2, count / 2, 1, 0} {
		want := api.ErrBig
		if room < 1 {
			want = api.ErrArg
		}
		if room < count {
			holdSetsError(t, n, room, want)
			holdOfError(t, n, names, room, want)
		}
	}
}

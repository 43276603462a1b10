package subset

import (
	"regexp"
	"slices"
	"strings"
	"testing"

	"doublet/api"
	"doublet/nfa"
	"doublet/sample"
	"doublet/sets"
	"doublet/tree"
)

// model is a machine of which the chapters' sentences tell, one by one. Some of its states are a text, with a 1 for each one that is among them, and a 0 for each other one.
type model struct{ n api.Nfa }

// put: some states, and one more.
func put(l string, state int) string { return l[:state] + "1" + l[state+1:] }

// closure: links are gone through again and again, till no state comes any more.
func (m model) closure(l string) string {
	for more := true; more; {
		more = false
		for _, link := range m.n.Links {
			if l[link.From] == '1' && l[link.To] == '0' {
				l, more = put(l, link.To), true
			}
		}
	}
	return l
}

func (m model) start() string {
	return m.closure(put(strings.Repeat("0", m.n.States), m.n.Start))
}

func has(s api.Set, b int) bool { return s[b/64]>>(b%64)&1 == 1 }

func (m model) step(l string, b int) string {
	next := strings.Repeat("0", m.n.States)
	for _, edge := range m.n.Edges {
		if l[edge.From] == '1' && has(edge.Set, b) {
			next = put(next, edge.To)
		}
	}
	return m.closure(next)
}

// classes: of each byte its class, and of each class its least byte.
func (m model) classes() (of [256]uint8, leasts []int) {
	numbers := map[string]int{}
	for b := range 256 {
		in := make([]byte, len(m.n.Edges))
		for i, edge := range m.n.Edges {
			if has(edge.Set, b) {
				in[i] = 1
			}
		}
		if _, ok := numbers[string(in)]; !ok {
			numbers[string(in)] = len(numbers)
			leasts = append(leasts, b)
		}
		of[b] = uint8(numbers[string(in)])
	}
	return of, leasts
}

// subsets: all of them, in their order, and the numbers of those behind each one; false, if there are more than room.
func (m model) subsets(room int) (l []string, rows [][]int, fits bool) {
	_, leasts := m.classes()
	l = []string{m.start()}
	for at := 0; at < len(l); at++ {
		if len(l) > room {
			return nil, nil, false
		}
		var row []int
		for _, b := range leasts {
			next := m.step(l[at], b)
			if !slices.Contains(l, next) {
				l = append(l, next)
			}
			row = append(row, slices.Index(l, next))
		}
		rows = append(rows, row)
	}
	return l, rows, true
}

// mayBe: the sentence of chapter 16.
func (m model) mayBe() bool {
	n := m.n
	is := func(state int) bool { return state >= 0 && state < n.States }
	return n.States >= 1 && n.States <= 65536 && is(n.Start) && len(n.Accept) == n.States &&
		!slices.ContainsFunc(n.Links, func(l api.Link) bool { return !is(l.From) || !is(l.To) }) &&
		!slices.ContainsFunc(n.Edges, func(l api.Edge) bool { return !is(l.From) || !is(l.To) }) &&
		slices.Min(n.Accept) >= 0 && slices.Max(n.Accept) <= 64
}

var named = regexp.MustCompile(`^[A-Za-z_][A-Za-z_0-9]{0,31}$`)

// mayBeNames: that of chapters 9 and 20.
func mayBeNames(l []string) bool {
	for place, name := range l {
		if !named.MatchString(name) || slices.Index(l, name) != place {
			return false
		}
	}
	return len(l) <= 64
}

func (m model) sets(room int) ([][]int, api.Errno) {
	if !m.mayBe() {
		return nil, 6
	}
	if room < 1 || room > 65536 {
		return nil, 1
	}
	l, _, fits := m.subsets(room)
	if !fits {
		return nil, 7
	}
	var all [][]int
	for _, states := range l {
		var some []int
		for state := range m.n.States {
			if states[state] == '1' {
				some = append(some, state)
			}
		}
		all = append(all, some)
	}
	return all, 0
}

func (m model) of(names []string, room int) (api.Dfa, api.Errno) {
	if !m.mayBe() || !mayBeNames(names) || slices.Max(m.n.Accept) > len(names) {
		return api.Dfa{}, 6
	}
	all, wrong := m.sets(room)
	if wrong != 0 {
		return api.Dfa{}, wrong
	}
	d := api.Dfa{Names: names}
	var leasts []int
	d.Of, leasts = m.classes()
	d.Width = len(leasts)
	_, d.Next, _ = m.subsets(room)
	for _, some := range all {
		label := 0
		for _, state := range some {
			if own := m.n.Accept[state]; own != 0 && (label == 0 || own < label) {
				label = own
			}
		}
		d.Label = append(d.Label, label)
	}
	return d, 0
}

// modelRules: the sentences of chapter 9, and then that of Rules.
func modelRules(l []api.Rule, room int) (api.Dfa, api.Errno) {
	names, bodies := parted(l)
	if !mayBeNames(names) || slices.ContainsFunc(bodies, func(x api.Node) bool { return !tree.Right(x) }) {
		return api.Dfa{}, 6
	}
	n, wrong := nfa.Of(bodies)
	if wrong != 0 {
		return api.Dfa{}, wrong
	}
	return model{n}.of(names, room)
}

// holdModelled: what Sets and Of tell is what the model does. It tells how many subsets there are; 0, where there is an error.
func holdModelled(t *testing.T, n api.Nfa, names []string, room int) int {
	t.Helper()
	m := model{n}
	want, wrong := m.sets(room)
	if wrong == 0 {
		holdSets(t, n, room, want...)
	} else {
		holdSetsError(t, n, room, wrong)
	}
	d, wrong := m.of(names, room)
	if wrong == 0 {
		holdOf(t, n, names, room, d)
		return len(d.Label)
	}
	holdOfError(t, n, names, room, wrong)
	return 0
}

// anyBytes: a set of bytes that chance picks one by one.
func anyBytes(next func(most int) int) api.Set {
	var s api.Set
	for range next(256) {
		s = sets.Union(s, sets.Of(byte(next(256))))
	}
	return s
}

// anyNfa: a machine that may be: with few bytes, with sets that edge on each other, or with as many classes as there are bytes, or nearly; with very many subsets; or one of trees.
func anyNfa(states int, next func(most int) int) api.Nfa {
	way := next(6)
	if n, wrong := nfa.Of(sample.SomeTrees(4, next)); way == 4 && wrong == api.OK && n.States < 60 {
		return n
	}
	if way == 5 {
		n := power(states)
		n.Edges[next(len(n.Edges))].To = next(states)
		n.Accept[next(states)] = next(api.MaxRules + 1)
		return n
	}
	n := sample.AnyMachine(states, next)
	if next(2) == 0 {
		n.Links = n.Links[:min(len(n.Links), next(4))]
	}
	for i := range n.Edges {
		switch way {
		case 0:
			n.Edges[i].Set = sets.Of("aab"[next(3)], "abb"[next(3)])
		case 1:
			n.Edges[i].Set = anyBytes(next)
		}
	}
	return n
}

// anyRoom: a number about how many subsets there are, about a limit, or whatever.
func anyRoom(count int, next func(most int) int) int {
	if next(5) == 0 {
		return []int{most + 1, 0, -1, least, greatest, -count, 1 << 32, 1<<32 + count}[next(8)]
	}
	return []int{count - 1, count, count + 1, count - 1, count, count + 1, most, 100, 1, 2}[next(10)]
}

// anyNames: as many names as labels, more of them, or less, or such as may not be.
func anyNames(n api.Nfa, next func(most int) int) []string {
	top := 0
	for _, label := range n.Accept {
		top = max(top, min(label, api.MaxRules))
	}
	names := called([]int{top, top, top, min(top+1, api.MaxRules), api.MaxRules, api.MaxRules, api.MaxRules, max(top-1, 0), api.MaxRules + 1, next(api.MaxRules)}[next(10)])
	if next(10) == 0 && len(names) > 0 {
		wrong := append(sample.WrongNames(), "right", "A", names[0], names[len(names)-1])
		names[next(len(names))] = wrong[next(len(wrong))]
	}
	return names
}

// spoilt: a machine with one thing made another one: it may be then, or not.
func spoilt(n api.Nfa, next func(most int) int) api.Nfa {
	n.Links, n.Edges, n.Accept = slices.Clone(n.Links), slices.Clone(n.Edges), slices.Clone(n.Accept)
	if next(4) == 0 {
		n.Accept = append(n.Accept, 1)[next(2)*(1+next(2)):]
		return n
	}
	numbers := sample.Numbers(&n)
	others := append(sample.Outside(n.States), 0, 1, n.States/2, n.States-1, api.MaxRules, api.MaxRules+1)
	*numbers[next(len(numbers))] = others[next(len(others))]
	return n
}

// Random machines, such as may be and others, with names, and room, that do and that do not.
func TestModelledRandom(t *testing.T) {
	t.Parallel()
	next := sample.Chances()
	errors, wide, great, labels := map[api.Errno]int{}, 0, 0, 0
	for i := range 12000 {
		n := anyNfa(1+i%9, next)
		// Labels above how many names there are, and such as are few.
		for state := range n.Accept {
			if i%2 == 0 {
				n.Accept[state] = min(n.Accept[state], next(4))
			}
		}
		names := anyNames(n, next)
		if i%5 == 0 {
			n = spoilt(n, next)
		}
		count := 0
		if all, wrong := (model{n}).sets(150); wrong == 0 {
			count = len(all)
		}
		room := anyRoom(count, next)
		if count == 0 {
			room = min(room, 150)
		}
		holdModelled(t, n, names, room)
		d, wrong := Of(n, names, room)
		if errors[wrong]++; d.Width > 100 {
			wide++
		}
		if len(d.Label) > 40 {
			great++
		}
		if slices.Max(append(d.Label, 0)) > 0 {
			labels++
		}
		if t.Failed() {
			return
		}
	}
	if min(errors[0], errors[1], errors[6], errors[7], labels) < 700 || min(wide, great) < 100 {
		t.Errorf("so often there are errors: %v; %d machines are wide, %d great, %d have labels", errors, wide, great, labels)
	}
}

// All machines of one and two states, with up to two links and two edges of few sets, from each state, with each of some labels.
func TestModelledSmall(t *testing.T) {
	t.Parallel()
	made := 0
	for states := 1; states <= 2; states++ {
		var links [][]api.Link
		var edges [][]api.Edge
		links, edges = append(links, nil), append(edges, nil)
		for from := range states {
			for to := range states {
				links = append(links, []api.Link{{From: from, To: to}})
				for _, bytes := range []string{"", "a", "b", "ab"} {
					edges = append(edges, []api.Edge{edge(from, bytes, to)})
				}
				edges = append(edges, []api.Edge{{From: from, Set: sets.All(), To: to}})
			}
		}
		for singles := edges[1:]; len(edges) <= len(singles)+1; {
			for _, one := range singles {
				for _, other := range singles {
					edges = append(edges, slices.Concat(one, other))
				}
			}
		}
		for _, some := range links {
			for _, others := range edges {
				for start := range states {
					n := from(start, with(bare(states), others...))
					n.Links = some
					for _, labels := range [][]int{nil, {1}, {2, 1}} {
						holdModelled(t, labelled(n, labels...), called(2), 1+made%5)
						made++
					}
				}
			}
		}
		if t.Failed() {
			return
		}
	}
	if made < 10000 {
		t.Errorf("there are only %d machines", made)
	}
}

// Greater random machines, whose states take several words of bits, and such as have very many edges.
func TestModelledGreat(t *testing.T) {
	t.Parallel()
	next := sample.Chances()
	counts := 0
	for _, states := range []int{62, 63, 64, 65, 66, 127, 128, 129, 200, 300} {
		for range 20 {
			n := sample.AnyMachine(states, next)
			n.Links = n.Links[:min(len(n.Links), next(states))]
			for i := range n.Edges {
				n.Edges[i].Set = sets.Of("aabc"[next(4)])
			}
			counts += min(holdModelled(t, n, called(64), 60), 10)
		}
		if t.Failed() {
			return
		}
	}
	if counts < 300 {
		t.Errorf("few machines have many subsets: %d", counts)
	}
	for range 20 {
		n := sample.AnyMachine(4, next)
		for range 500 {
			n.Edges = append(n.Edges, api.Edge{From: next(4), Set: anyBytes(next), To: next(4)})
		}
		holdModelled(t, n, called(64), 100)
	}
}

// Rules, random ones, such as may be and others.
func TestModelledRules(t *testing.T) {
	t.Parallel()
	next := sample.Chances()
	errors := map[api.Errno]int{}
	for i := range 3000 {
		l := ruled(sample.SomeTrees(6, next)...)
		if i%4 == 0 && len(l) > 0 {
			place := next(len(l))
			switch next(3) {
			case 0:
				l[place].Body = sample.Wild(next)
			case 1:
				l[place].Name = sample.WrongNames()[next(20)]
			case 2:
				l[place].Name = l[next(len(l))].Name
			}
		}
		room := []int{1, 5, 20, 60, 60, 60, 60, 0, -1, least, greatest, most + 1}[next(12)]
		// Numbers in trees may be great.
		if weight := weightOf(l); weight > 300 && weight <= api.MaxNfa && room <= most && room > 0 {
			continue
		}
		want, wrong := modelRules(l, room)
		if errors[wrong]++; wrong == 0 {
			holdRules(t, l, room, want)
		} else {
			holdRulesError(t, l, room, wrong)
		}
		if t.Failed() {
			return
		}
	}
	if min(errors[0], errors[1], errors[6], errors[7]) < 150 {
		t.Errorf("so often there are errors: %v", errors)
	}
}

// weightOf: how many states the machine of rules has; few, of such as may not be.
func weightOf(l []api.Rule) int {
	_, bodies := parted(l)
	if slices.ContainsFunc(bodies, func(x api.Node) bool { return !tree.Right(x) }) {
		return 1
	}
	return nfa.Size(bodies)
}

package dfa

import (
	"regexp"
	"slices"
	"testing"

	"doublet/api"
	"doublet/sample"
)

// model is a machine of which the chapter's sentences tell, one by one; whether it may be is asked once.
type model struct {
	d   api.Dfa
	may bool
}

func modelOf(d api.Dfa) model { return model{d, modelRight(d)} }

var called32 = regexp.MustCompile(`^[A-Za-z_][A-Za-z_0-9]{0,31}$`)

// normal: classes are numbered from 0 on by their least bytes, and are so many.
func normal(of [256]uint8, width int) bool {
	met := map[uint8]int{}
	for _, n := range of {
		if _, ok := met[n]; !ok {
			met[n] = len(met)
		}
		if met[n] != int(n) {
			return false
		}
	}
	return len(met) == width
}

// modelRight asks one thing after another; what lists' lengths tell comes first.
func modelRight(d api.Dfa) bool {
	if !normal(d.Of, d.Width) || len(d.Label) == 0 || len(d.Label) > 65536 || len(d.Next) != len(d.Label) || len(d.Names) > 64 {
		return false
	}
	for _, row := range d.Next {
		if len(row) != d.Width {
			return false
		}
		for _, to := range row {
			if uint64(to) >= uint64(len(d.Label)) {
				return false
			}
		}
	}
	for _, label := range d.Label {
		if uint64(label) > uint64(len(d.Names)) {
			return false
		}
	}
	met := map[string]int{}
	for _, name := range d.Names {
		met[name]++
		if met[name] > 1 || !called32.MatchString(name) {
			return false
		}
	}
	return true
}

// same: two machines, field by field, and lists element by element.
func same(a, b api.Dfa) bool {
	if a.Of != b.Of || a.Width != b.Width || len(a.Next) != len(b.Next) || len(a.Label) != len(b.Label) || len(a.Names) != len(b.Names) {
		return false
	}
	for s := range a.Next {
		if len(a.Next[s]) != len(b.Next[s]) {
			return false
		}
		for c := range a.Next[s] {
			if a.Next[s][c] != b.Next[s][c] {
				return false
			}
		}
	}
	for s := range a.Label {
		if a.Label[s] != b.Label[s] {
			return false
		}
	}
	for place := range a.Names {
		if a.Names[place] != b.Names[place] {
			return false
		}
	}
	return true
}

func (m model) is(s int) bool { return s >= 0 && s < len(m.d.Label) }

func (m model) to(s int, b byte) int {
	if !m.may || !m.is(s) {
		return -1
	}
	class := m.d.Of[b]
	return m.d.Next[s][class]
}

func (m model) run(w string) int {
	if !m.may {
		return -1
	}
	if w == "" {
		return 0
	}
	last := len(w) - 1
	return m.to(m.run(w[:last]), w[last])
}

func (m model) tell(w string) int {
	if !m.may {
		return 0
	}
	return m.d.Label[m.run(w)]
}

func (m model) name(w string) string {
	return append([]string{""}, m.d.Names...)[m.tell(w)]
}

// reach: what stands behind the ones ahead, if it does not stand there yet.
func (m model) reach() []int {
	if !m.may {
		return nil
	}
	l := []int{0}
	for at := 0; at < len(l); at++ {
		for class := range m.d.Width {
			if to := m.d.Next[l[at]][class]; !slices.Contains(l, to) {
				l = append(l, to)
			}
		}
	}
	return l
}

// live: states are put, again and again, behind which one stands that is put, till none comes any more.
func (m model) live() []int {
	if !m.may {
		return nil
	}
	in := map[int]bool{}
	for s, label := range m.d.Label {
		in[s] = label > 0
	}
	for more := true; more; {
		more = false
		for s, row := range m.d.Next {
			for _, to := range row {
				if in[to] && !in[s] {
					in[s], more = true, true
				}
			}
		}
	}
	var l []int
	for s := range m.d.Label {
		if in[s] {
			l = append(l, s)
		}
	}
	return l
}

// listed: has a list some of the states, each once, 0 first, and each state behind one of them?
func (m model) listed(l []int) bool {
	for place, s := range l {
		if !m.is(s) || slices.Index(l, s) != place {
			return false
		}
		for _, to := range m.d.Next[s] {
			if !slices.Contains(l, to) {
				return false
			}
		}
	}
	return slices.Index(l, 0) == 0
}

func (m model) keep(l []int) (api.Dfa, api.Errno) {
	switch {
	case !m.may:
		return api.Dfa{}, 6
	case !m.listed(l):
		return api.Dfa{}, 1
	}
	kept := m.d
	kept.Next, kept.Label = nil, nil
	for _, s := range l {
		var row []int
		for _, to := range m.d.Next[s] {
			row = append(row, slices.Index(l, to))
		}
		kept.Next, kept.Label = append(kept.Next, row), append(kept.Label, m.d.Label[s])
	}
	return kept, 0
}

// holdWord: all calls that take a word tell of one what the model does.
func holdWord(t *testing.T, m model, w string) {
	t.Helper()
	d := m.d
	if got, want := Run(d, []byte(w)), m.run(w); got != want {
		t.Errorf("Run(%q) is %d, want %d, of %s", front(w), got, want, brief(d))
	}
	if got, want := Tell(d, []byte(w)), m.tell(w); got != want {
		t.Errorf("Tell(%q) is %d, want %d, of %s", front(w), got, want, brief(d))
	}
	if got, want := Name(d, []byte(w)), m.name(w); got != want {
		t.Errorf("Name(%q) is %q, want %q, of %s", front(w), got, want, brief(d))
	}
}

// holdTo: To tells what the model does.
func holdTo(t *testing.T, m model, s int, b byte) {
	t.Helper()
	if got, want := To(m.d, s, b), m.to(s, b); got != want {
		t.Errorf("To(%d, %d) is %d, want %d, of %s", s, b, got, want, brief(m.d))
	}
}

// holdLists: all calls that tell states, or a machine, tell what the model does.
func holdLists(t *testing.T, m model, lists ...[]int) {
	t.Helper()
	d := m.d
	holdRight(t, d, m.may, "as the model says,")
	holdReach(t, d, m.reach()...)
	holdLive(t, d, m.live()...)
	for _, l := range lists {
		want, wrong := m.keep(l)
		if wrong == 0 {
			holdKeep(t, d, l, want)
		} else {
			holdKeepError(t, d, l, wrong)
		}
	}
	got, wrong := Trim(d)
	if want, no := m.keep(m.reach()); no == 0 {
		holdDfa(t, got, wrong, want, "Trim of %s", brief(d))
	} else {
		holdError(t, got, wrong, no, "Trim of %s", brief(d))
	}
}

// anyLists: lists of states: such as Keep takes, such with one thing made another one, and whatever there is.
func anyLists(d api.Dfa, next func(most int) int) [][]int {
	reach, all := modelOf(d).reach(), upTo(0, len(d.Label))
	shuffle := func(l []int) []int {
		l = slices.Clone(l)
		for i := len(l) - 1; i > 1; i-- {
			j := 1 + next(i)
			l[i], l[j] = l[j], l[i]
		}
		return l
	}
	lists := [][]int{nil, {}, {0}, all, reach, shuffle(all), shuffle(reach)}
	var some []int
	for range next(5) {
		some = append(some, anyNumber(d, next))
	}
	lists = append(lists, some)
	for _, l := range lists[3:7] {
		if len(l) == 0 {
			continue
		}
		at := next(len(l))
		other := slices.Clone(l)
		other[at] = anyNumber(d, next)
		swapped := slices.Clone(l)
		swapped[0], swapped[at] = swapped[at], swapped[0]
		lists = append(lists, other, swapped, slices.Delete(slices.Clone(l), at, at+1), slices.Insert(slices.Clone(l), at, anyNumber(d, next)))
	}
	return lists
}

// holdAny: each call on a machine, with random words and lists.
func holdAny(t *testing.T, d api.Dfa, next func(most int) int) {
	t.Helper()
	m := modelOf(d)
	holdLists(t, m, anyLists(d, next)...)
	for range 6 {
		w := make([]byte, next(7))
		for i := range w {
			w[i] = byte(next(256))
		}
		holdWord(t, m, string(w))
		holdTo(t, m, anyNumber(d, next), byte(next(256)))
		holdTo(t, m, next(len(d.Label)), byte(next(256)))
	}
}

// Random machines, that may be and that may not.
func TestModelledRandom(t *testing.T) {
	t.Parallel()
	next := sample.Chances()
	var may, trimmed, dead, wide [2]int
	for i := range 6000 {
		d := sample.AnyDfa(1+next(1+i%30), next)
		if i%3 == 0 {
			d = spoilt(d, next)
		}
		holdAny(t, d, next)
		m := modelOf(d)
		count := func(of *[2]int, is bool) { of[map[bool]int{true: 1}[is]]++ }
		if count(&may, m.may); m.may {
			count(&trimmed, len(m.reach()) < len(d.Label))
			count(&dead, len(m.live()) < len(d.Label) && len(m.live()) > 0)
			count(&wide, d.Width > 100)
		}
		if t.Failed() {
			return
		}
	}
	for what, of := range map[string][2]int{"may be": may, "are trimmed": trimmed, "have dead states": dead, "are wide": wide} {
		if min(of[0], of[1]) < 200 {
			t.Errorf("%v of the machines %s", of, what)
		}
	}
}

// All machines of up to three states with few classes, with all words of up to three bytes, and all lists of up to three numbers from 0 to 3 that have 0 first, and some others.
func TestModelledSmall(t *testing.T) {
	t.Parallel()
	lists := [][]int{nil, {1}, {2}, {1, 0}, {1, 0, 2}, {2, 1, 0}, {-1, 0}, {0, 1, 2, 0}, {0, 1, 2, 3}, {0, 2, 1, 1}, {0, 1, 2, -1}, {0}}
	for from, n := len(lists)-1, 0; n < 2; n++ {
		upto := len(lists)
		for _, l := range lists[from:upto] {
			for s := range 4 {
				lists = append(lists, append(slices.Clone(l), s))
			}
		}
		from = upto
	}
	var all []api.Dfa
	eachSmall(func(d api.Dfa) { all = append(all, d) })
	if len(all) != 2+2+4*4+4*16+8*27+8*729 || len(lists) != 12+4+16 {
		t.Errorf("there are %d small machines, and %d lists", len(all), len(lists))
	}
	words := sample.AllWords("\x00b", 3)
	for _, d := range all {
		m := modelOf(d)
		holdLists(t, m, lists...)
		for _, w := range words {
			holdWord(t, m, w)
		}
		for s := range 4 {
			holdTo(t, m, s, 'b')
			holdTo(t, m, s, 'a')
		}
		if t.Failed() {
			return
		}
	}
}

// eachSmall visits all machines of one, two and three states, of one class, and of two, of which b has one, with a label or none at each state.
func eachSmall(visit func(d api.Dfa)) {
	for states := 1; states <= 3; states++ {
		for width := 1; width <= 2; width++ {
			sample.EachDfa(states, width, 1, func(d api.Dfa) {
				d.Of = [256]uint8{'b': uint8(width - 1)}
				visit(d)
			})
		}
	}
}

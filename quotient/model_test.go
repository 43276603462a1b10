package quotient

import (
	"slices"
	"testing"

	"doublet/api"
	"doublet/dfa"
	"doublet/sample"
)

// The model takes the chapter's sentences one by one. Whether a machine may be is asked of package dfa, of which a model was held ahead.

func modelNorm(l []int) []int {
	return sample.Grouped(len(l), func(s, t int) bool { return l[s] == l[t] })
}

func modelJoin(a, b []int) []int {
	return sample.Grouped(min(len(a), len(b)), func(s, t int) bool { return a[s] == a[t] && b[s] == b[t] })
}

func modelFiner(a, b []int) bool {
	if len(a) != len(b) {
		return false
	}
	for s := range a {
		for t := range s {
			if a[s] == a[t] && b[s] != b[t] {
				return false
			}
		}
	}
	return true
}

func modelStable(d api.Dfa, l []int) bool {
	if !dfa.Right(d) || len(l) != len(d.Label) {
		return false
	}
	for s := range l {
		for t := range s {
			if l[s] != l[t] {
				continue
			}
			if d.Label[s] != d.Label[t] {
				return false
			}
			for class := range d.Width {
				if l[d.Next[s][class]] != l[d.Next[t][class]] {
					return false
				}
			}
		}
	}
	return true
}

// modelOf takes the last state of each block.
func modelOf(d api.Dfa, l []int) (api.Dfa, api.Errno) {
	switch {
	case !dfa.Right(d):
		return api.Dfa{}, 6
	case !modelStable(d, l):
		return api.Dfa{}, 1
	}
	normal := modelNorm(l)
	made := d
	made.Next, made.Label = nil, nil
	for block := range slices.Max(normal) + 1 {
		s := len(l) - 1
		for normal[s] != block {
			s--
		}
		var row []int
		for _, to := range d.Next[s] {
			row = append(row, normal[to])
		}
		made.Next, made.Label = append(made.Next, row), append(made.Label, d.Label[s])
	}
	return made, 0
}

func modelClasses(d api.Dfa) (classes, int) {
	if !dfa.Right(d) {
		return classes{}, 0
	}
	var of classes
	numbers := sample.Grouped(256, func(x, y int) bool {
		for _, row := range d.Next {
			if row[d.Of[x]] != row[d.Of[y]] {
				return false
			}
		}
		return true
	})
	for b, n := range numbers {
		of[b] = uint8(n)
	}
	return of, slices.Max(numbers) + 1
}

// modelMerge takes the last byte of each class.
func modelMerge(d api.Dfa) (api.Dfa, api.Errno) {
	if !dfa.Right(d) {
		return api.Dfa{}, 6
	}
	made := d
	made.Of, made.Width = modelClasses(d)
	made.Next = nil
	for _, row := range d.Next {
		merged := make([]int, made.Width)
		for b, class := range made.Of {
			merged[class] = row[d.Of[b]]
		}
		made.Next = append(made.Next, merged)
	}
	return made, 0
}

// met: how often blocks were Stable, and not; lists Finer, and not; machines had fewer states, or classes, and as many; and how often there was which error.
type met struct {
	stable, finer, fewer, merged [2]int
	wrong                        map[api.Errno]int
}

func count(of *[2]int, is bool) {
	if is {
		of[1]++
	} else {
		of[0]++
	}
}

// holdModelled: each call on a machine and lists, and on each two of these, tells what the model does.
func holdModelled(t *testing.T, d api.Dfa, lists [][]int, m *met) {
	t.Helper()
	for _, l := range lists {
		holdBlocks(t, Norm(l), modelNorm(l), "Norm of %s", many(l))
		want := modelStable(d, l)
		holdStable(t, d, l, want)
		count(&m.stable, want)
		of, wrong := modelOf(d, l)
		if m.wrong[wrong]++; wrong == 0 {
			holdDfa(t, told(Of(d, l)), of, "Of, by %s, of %s", many(l), brief(d))
			count(&m.fewer, len(of.Label) < len(d.Label))
		} else {
			holdError(t, told(Of(d, l)), wrong, "Of, by %s, of %s", many(l), brief(d))
		}
		for _, other := range lists {
			holdBlocks(t, Join(l, other), modelJoin(l, other), "Join of %s and %s", many(l), many(other))
			finer := modelFiner(l, other)
			if count(&m.finer, finer); Finer(l, other) != finer {
				t.Errorf("Finer is %t of %s and %s", !finer, many(l), many(other))
			}
		}
	}
	if !dfa.Right(d) {
		holdNoClasses(t, d)
		return
	}
	merged, _ := modelMerge(d)
	holdMerge(t, d, merged)
	count(&m.merged, merged.Width < d.Width)
}

// anyBlocks: blocks of so many states: as they are; with one state in another one's block, or alone; with two blocks in one; with a number less or more; each state alone, or all in one; or with numbers of few; all that with other numbers.
func anyBlocks(l []int, next func(most int) int) []int {
	l = turned(modelNorm(l), sample.OneOf(turns()[:3], next))
	states := len(l)
	switch next(9) {
	case 0:
		l[next(states)] = l[next(states)]
	case 1:
		l[next(states)] = 3 * states
	case 2:
		from, to := l[next(states)], l[next(states)]
		l = turned(l, func(n int) int {
			if n == from {
				return to
			}
			return n
		})
	case 3:
		l = l[:next(states)]
	case 4:
		l = append(l, sample.OneOf(l, next))
	case 5:
		l = sample.OneOf([][]int{upTo(0, states), make([]int, states)}, next)
	case 6:
		few := 1 + next(5)
		l = by(states, func(int) int { return next(few) - 2 })
	}
	return turned(l, sample.OneOf(turns(), next))
}

// Random machines and blocks, that may be, are Stable, and are not.
func TestModelledRandom(t *testing.T) {
	t.Parallel()
	next := sample.Chances()
	m := met{wrong: map[api.Errno]int{}}
	for i := range 4000 {
		d, l := anyMachine(1+i%15, next)
		lists := append(sample.Many(3, func() []int { return anyBlocks(l, next) }), l, d.Label)
		if i%5 == 0 {
			d = sample.SpoiltDfa(d, next)
		}
		if holdModelled(t, d, lists, &m); t.Failed() {
			return
		}
	}
	if min(m.wrong[0], m.wrong[1], m.wrong[6], m.fewer[0], m.fewer[1], m.merged[0], m.merged[1], m.finer[0], m.finer[1]) < 1000 {
		t.Errorf("so often there was: %v", m)
	}
}

// All small machines: of one state and of two, with up to three classes, and of three, with up to two; with all blocks of them, and lists that have a number less, or more.
func TestModelledSmall(t *testing.T) {
	t.Parallel()
	m := met{wrong: map[api.Errno]int{}}
	machines := 0
	for _, size := range [][3]int{{1, 1, 2}, {1, 3, 2}, {2, 1, 2}, {2, 2, 2}, {2, 3, 1}, {3, 1, 2}, {3, 2, 1}} {
		states := size[0]
		lists := append(partitions(states), upTo(0, states-1), make([]int, states+1))
		for _, l := range partitions(states) {
			lists = append(lists, turned(l, turns()[1+len(lists)%8]))
		}
		sample.EachDfa(states, size[1], size[2], func(d api.Dfa) {
			if machines++; !t.Failed() {
				holdModelled(t, d, lists, &m)
			}
		})
	}
	if machines != 3+3+9*4+9*16+4*64+27*27+8*729 || min(m.stable[0], m.stable[1], m.fewer[0], m.fewer[1], m.merged[0], 10*m.merged[1]) < 4000 {
		t.Errorf("there are %d machines, and so often there was: %v", machines, m)
	}
}

// All lists of up to five of a few numbers, and all pairs of those of up to four.
func TestModelledLists(t *testing.T) {
	t.Parallel()
	lists := [][]int{nil}
	short := 0
	for from, n := 0, 0; n < 5; n++ {
		upto := len(lists)
		for _, l := range lists[from:upto] {
			for _, number := range ints(1, -7, greatest) {
				lists = append(lists, append(slices.Clone(l), number))
			}
		}
		if from = upto; n == 3 {
			short = len(lists)
		}
	}
	if len(lists) != 1+3+9+27+81+243 || short != 1+3+9+27+81 {
		t.Errorf("there are %d lists, and %d", len(lists), short)
	}
	for _, l := range lists {
		holdNorm(t, l, modelNorm(l))
	}
	for _, a := range lists[:short] {
		for _, b := range lists[:short] {
			holdBlocks(t, Join(a, b), modelJoin(a, b), "Join of %s and %s", many(a), many(b))
			if want := modelFiner(a, b); Finer(a, b) != want {
				t.Errorf("Finer is %t of %s and %s", !want, many(a), many(b))
			}
		}
	}
}

// Random long lists, of few numbers and of many, as long as each other or not.
func TestModelledLongLists(t *testing.T) {
	t.Parallel()
	next := sample.Chances()
	finer, shorter := [2]int{}, [2]int{}
	for range 1500 {
		a := by(next(120), func(int) int { return next(1 << next(8)) })
		b := by(next(120), func(int) int { return next(1 << next(8)) })
		switch next(3) {
		case 0:
			// Coarser than the first one, but for a number perhaps.
			to := next(20) + 1
			b = turned(a, func(n int) int { return n / to })
			if len(b) > 0 && next(2) == 0 {
				b[next(len(b))] = next(100)
			}
		case 1:
			b = by(len(a), func(s int) int { return next(3) })
		}
		a, b = turned(a, sample.OneOf(turns(), next)), turned(b, sample.OneOf(turns(), next))
		holdBlocks(t, Norm(a), modelNorm(a), "Norm of %s", many(a))
		holdBlocks(t, Join(a, b), modelJoin(a, b), "Join of %s and %s", many(a), many(b))
		holdBlocks(t, Join(b, a), modelJoin(b, a), "Join of %s and %s", many(b), many(a))
		want := modelFiner(a, b)
		if Finer(a, b) != want || Finer(b, a) != modelFiner(b, a) {
			t.Errorf("Finer is %t, and %t the other way round, of %s and %s", Finer(a, b), Finer(b, a), many(a), many(b))
		}
		count(&finer, want)
		count(&shorter, len(a) != len(b))
	}
	if min(finer[0], finer[1], shorter[0], shorter[1]) < 200 {
		t.Errorf("so often lists were finer, %v, and not as long, %v", finer, shorter)
	}
}

package parts

import (
	"bytes"
	"slices"
	"testing"

	"doublet/api"
	"doublet/sample"
	"doublet/sets"
)

// roomy: a list with room behind it, and sets in it that would tell bytes apart.
func roomy(l []api.Set) []api.Set { return sample.RoomyList(l, singles()[:80]...) }

// Sets that are handed in stay as they are, and so does the room behind them, which says nothing; what is told stays when they are written over.
func TestP1901ArgumentsStay(t *testing.T) {
	next := sample.Chances()
	for i := range 1000 {
		l := anySets([]int{3, 12, 66, 140}[i%4], next)
		given := roomy(l)
		kept := slices.Clone(given[:cap(given)])
		want, width := Of(l)
		got, n := Of(given)
		holdClasses(t, got, n, want, width, "with room behind Of(%s)", shownSets(l))
		if !slices.Equal(given[:cap(given)], kept) {
			t.Errorf("what was handed in became %s, and was %s", shownSets(given[:cap(given)]), shownSets(kept))
		}
		sample.ScribbleList(given, sets.Of('#'))
		holdClasses(t, got, n, want, width, "once what was handed in was written over, Of(%s)", shownSets(l))
		got, n = Of(l)
		holdClasses(t, got, n, want, width, "later Of(%s)", shownSets(l))
		if t.Failed() {
			return
		}
	}
	// A part of a list that goes on ahead and behind.
	all := singles()
	for _, ends := range [][2]int{{0, 0}, {5, 5}, {5, 6}, {97, 99}, {1, 66}, {100, 256}} {
		want, width := modelOf(all[ends[0]:ends[1]])
		got, n := Of(all[ends[0]:ends[1]])
		holdClasses(t, got, n, want, width, "Of the sets of one byte from %d to %d", ends[0], ends[1])
	}
	if !slices.Equal(all, singles()) {
		t.Error("a list was written over")
	}
}

// What Sets and Leasts tell shares nothing with a later answer, nor does the room behind it.
func TestP1901NewMemory(t *testing.T) {
	next := sample.Chances()
	given := []classes{{}, by(func(b int) int { return b }), by(func(b int) int { return b % 2 })}
	for range 500 {
		given = append(given, anyClasses(next))
	}
	for _, of := range given {
		first, second := Sets(of), Sets(of)
		one, other := Leasts(of), Leasts(of)
		want, leasts := modelSets(of), modelLeasts(of)
		sample.ScribbleList(first, sets.Of('#'))
		sample.ScribbleList(one, '#')
		if !slices.Equal(second, want) || string(other) != leasts {
			t.Errorf("once answers were written over, Sets(%s) is %s, and Leasts %v", shown(of), shownSets(second), other)
		}
		holdLists(t, of, want, leasts)
		third, last := Sets(of), Leasts(of)
		x, y := append(second, set("x")), append(third, set("y"))
		v, w := append(other, 'v'), append(last, 'w')
		if !slices.Equal(x, append(slices.Clone(want), set("x"))) || !slices.Equal(y, append(slices.Clone(want), set("y"))) || string(v) != leasts+"v" || string(w) != leasts+"w" {
			t.Errorf("of %s room behind answers is shared", shown(of))
		}
		if t.Failed() {
			return
		}
	}
}

// Classes that are handed in, and told, are values: to change them changes nothing else.
func TestP1901ClassesAreValues(t *testing.T) {
	next := sample.Chances()
	for range 300 {
		a, b := anyClasses(next), anyClasses(next)
		kept, other := a, b
		want, width := modelJoin(a, b)
		normal, n := Norm(a)
		joined, m := Join(a, b)
		Right(a, n)
		Sets(a)
		Leasts(a)
		if a != kept || b != other {
			t.Errorf("what was handed in became %s and %s, and was %s and %s", shown(a), shown(b), shown(kept), shown(other))
		}
		sample.ScribbleList(normal[:], 99)
		sample.ScribbleList(joined[:], 99)
		sample.ScribbleList(b[:], 99)
		normal, n = Norm(a)
		again, width2 := modelNorm(kept)
		holdClasses(t, normal, n, again, width2, "later Norm(%s)", shown(kept))
		joined, m = Join(kept, other)
		holdClasses(t, joined, m, want, width, "later Join(%s, %s)", shown(kept), shown(other))
		if t.Failed() {
			return
		}
	}
}

// question: what is asked, and what was told when it was asked alone.
type question struct {
	l                 []api.Set
	a, b              classes
	width             int
	of, normal, joint classes
	widths            [3]int
	right             bool
	sets              []api.Set
	leasts            []byte
}

func asked(l []api.Set, a, b classes, width int) question {
	q := question{l: l, a: a, b: b, width: width}
	q.of, q.widths[0] = Of(l)
	q.normal, q.widths[1] = Norm(a)
	q.joint, q.widths[2] = Join(a, b)
	q.right = Right(a, width)
	q.sets, q.leasts = Sets(a), Leasts(a)
	return q
}

// same: is all that two were told the same?
func same(q, r question) bool {
	return q.of == r.of && q.normal == r.normal && q.joint == r.joint && q.widths == r.widths && q.right == r.right && slices.Equal(q.sets, r.sets) && bytes.Equal(q.leasts, r.leasts)
}

// Many calls at once answer as one after another, and so do later ones.
func TestP1901AtOnce(t *testing.T) {
	t.Parallel()
	next := sample.Chances()
	var l []question
	for range 300 {
		a := anyClasses(next)
		_, width := Norm(a)
		l = append(l, asked(anySets(70, next), a, anyClasses(next), width-next(2)))
	}
	sample.AtOnce(len(l), func(place int) {
		q := l[place]
		if !same(q, asked(q.l, q.a, q.b, q.width)) {
			t.Errorf("at once the answers on %s, %s and %s are others", shownSets(q.l), shown(q.a), shown(q.b))
		}
	})
	for range 3 {
		for _, q := range l {
			if !same(q, asked(q.l, q.a, q.b, q.width)) {
				t.Fatalf("later the answers on %s, %s and %s are others", shownSets(q.l), shown(q.a), shown(q.b))
			}
		}
	}
}

// Many thousand sets: all alike but the last one, random ones, and such as part more and more.
func TestP1901ManySets(t *testing.T) {
	t.Parallel()
	next := sample.Chances()
	for _, n := range []int{65535, 65536, 65537, 300000} {
		l := make([]api.Set, n)
		holdOf(t, l, sets.All())
		l[n-1] = set("b")
		holdOf(t, l, others("b"), set("b"))
		l[0] = set("bc")
		holdOf(t, l, others("bc"), set("b"), set("c"))
		for i := range 255 {
			l[n/256*(i+1)] = sets.Of(byte(i + 1))
		}
		holdOf(t, l, singles()...)
		for i := range l {
			l[i] = sample.AnySet(next)
		}
		want, width := modelOf(l[:10000])
		got, m := Of(l)
		if all, _ := Join(got, want); all != got || m < width {
			t.Errorf("of %d random sets are %d classes, of some of them %d", n, m, width)
		}
		// What many thousand tell, some few do.
		few, m := Of(Sets(got))
		holdClasses(t, few, m, got, m, "Of the Sets of those")
	}
}

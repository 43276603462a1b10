package bitset

import (
	"slices"
	"testing"

	"doublet/sample"
)

// A model is a set as the chapter's sentences tell it: its numbers stand in a list, in the order in which they were put.
type model struct {
	none bool
	room int
	l    []int
}

func (m *model) has(i int) bool { return slices.Contains(m.l, i) }

func (m *model) put(i int) bool {
	if i < 0 || i >= m.room || m.has(i) {
		return false
	}
	m.l = append(m.l, i)
	return true
}

func (m *model) take(i int) bool {
	n := len(m.l)
	m.l = slices.DeleteFunc(m.l, func(j int) bool { return i == j })
	return len(m.l) < n
}

func (m *model) or(c *model) bool {
	is := false
	for _, i := range slices.Clone(c.l) {
		is = m.put(i) || is
	}
	return is
}

func (m *model) meets(c *model) bool { return slices.ContainsFunc(m.l, c.has) }

func (m *model) all() []int { return slices.Sorted(slices.Values(m.l)) }

// A held set is one, and its model.
type held struct {
	b *Bits
	m *model
}

// anyHeld: an empty set of any room, or nil.
func anyHeld(t *testing.T, next func(int) int) held {
	n := next(300)
	switch next(12) {
	case 0:
		return held{nil, &model{none: true}}
	case 1:
		n = 64*next(4) + next(3)
	case 2:
		n = next(4)
	case 3:
		if next(9) == 0 {
			n = Most - next(2)
		}
	}
	return held{empty(t, n), &model{room: n}}
}

// anyNumber: one for which there is room, or not; some are told often.
func anyNumber(n int, next func(int) int) int {
	switch next(6) {
	case 0:
		return edges(n)[next(len(edges(n)))]
	case 1:
		return ends()[next(len(ends()))]
	case 2:
		return next(300)
	}
	return next(20) * 13
}

// copied: the copy of a set, and of its model.
func (x held) copied() held {
	return held{x.b.Copy(), &model{x.m.none, x.m.room, slices.Clone(x.m.l)}}
}

// changed makes a random call that may change a set, and holds what it tells against what its model does.
func changed(t *testing.T, x, y *held, next func(int) int) {
	t.Helper()
	i := anyNumber(x.m.room, next)
	told := func(name string, got, want bool) {
		if t.Helper(); got != want {
			t.Errorf("%s is %t: %d, room for %d and %d, %v and %v", name, got, i, x.m.room, y.m.room, x.m.l, y.m.l)
		}
	}
	switch next(12) {
	case 0, 1, 2, 3:
		told("Put", x.b.Put(i), x.m.put(i))
	case 4, 5:
		if len(x.m.l) > 0 && next(2) == 0 {
			i = x.m.l[next(len(x.m.l))]
		}
		told("Take", x.b.Take(i), x.m.take(i))
	case 6:
		told("Or", x.b.Or(y.b), x.m.or(y.m))
	case 7:
		told("Or of itself", x.b.Or(x.b), false)
	case 8:
		if next(3) == 0 {
			*y = x.copied()
		}
	case 9:
		if next(3) == 0 {
			*y = anyHeld(t, next)
		}
	default:
		told("Has", x.b.Has(i), x.m.has(i))
	}
}

// holdTwo: all that may be asked of two sets is what their models tell.
func holdTwo(t *testing.T, x, y held) {
	t.Helper()
	for _, z := range []held{x, y} {
		if (z.b == nil) != z.m.none || z.b.Room() != z.m.room || z.b.Count() != len(z.m.l) || !slices.Equal(z.b.All(), z.m.all()) {
			t.Errorf("a set has room for %d, and %d numbers, %v, want room for %d, %v", z.b.Room(), z.b.Count(), z.b.All(), z.m.room, z.m.l)
		}
		if meets := len(z.m.l) > 0; z.b.Meets(z.b) != meets {
			t.Errorf("that %v meet themselves is %t", z.m.l, !meets)
		}
	}
	if meets := x.m.meets(y.m); x.b.Meets(y.b) != meets || y.b.Meets(x.b) != meets {
		t.Errorf("that %v and %v meet is %t, and %t the other way round", x.m.l, y.m.l, x.b.Meets(y.b), y.b.Meets(x.b))
	}
	if same := slices.Equal(x.m.all(), y.m.all()); (x.b.Key() == y.b.Key()) != same {
		t.Errorf("that %v and %v have one key is %t", x.m.l, y.m.l, !same)
	}
}

// Random rows of calls on two sets of any room.
func TestP1402RandomCalls(t *testing.T) {
	t.Parallel()
	next := sample.Chances()
	met, one := 0, 0
	for range 1500 {
		x, y := anyHeld(t, next), anyHeld(t, next)
		for range 60 {
			if next(2) == 0 {
				x, y = y, x
			}
			changed(t, &x, &y, next)
			holdTwo(t, x, y)
			if t.Failed() {
				return
			}
			if x.m.meets(y.m) {
				met++
			}
			if len(x.m.l) > 0 && slices.Equal(x.m.all(), y.m.all()) {
				one++
			}
		}
	}
	if min(met, one) < 5000 {
		t.Errorf("%d times two sets met, and %d times they were the same", met, one)
	}
}

// All sets of a few numbers, in some room, with each other.
func TestP1402AllPairs(t *testing.T) {
	t.Parallel()
	few := []int{0, 1, 63, 64, 127, 128}
	var l []held
	for _, n := range []int{0, 1, 2, 64, 65, 128, 129, 200} {
		for some := range 1 << len(few) {
			x := held{empty(t, n), &model{room: n}}
			for i := range few {
				if some>>i&1 == 1 && x.b.Put(few[i]) != x.m.put(few[i]) {
					t.Fatalf("Put(%d) in room for %d", few[i], n)
				}
			}
			if len(x.m.l) > 0 || some == 0 {
				l = append(l, x)
			}
		}
	}
	for _, x := range l {
		for _, y := range l {
			z, kept := x.copied(), y.copied()
			if z.b.Or(y.b) != z.m.or(y.m) {
				t.Errorf("Or of %v in room for %d and %v is wrong", x.m.l, x.m.room, y.m.l)
			}
			holdTwo(t, z, y)
			if y.b.Key() != kept.b.Key() || x.b.Meets(y.b) != x.m.meets(y.m) {
				t.Errorf("Or of %v in room for %d changed %v, or they meet", x.m.l, x.m.room, y.m.l)
			}
			if t.Failed() {
				return
			}
		}
	}
}

// Sets of their own, at once, answer as they do one behind the other; and those that nobody changes may be asked by all.
func TestP1401AtOnce(t *testing.T) {
	t.Parallel()
	row := func(place int) (string, []int) {
		next := sample.Chances()
		b, _ := New(1 + place)
		for range place {
			b.Put(next(1 + place))
			b.Take(next(1 + place))
		}
		return b.Key(), b.All()
	}
	full := with(t, 500, upTo(0, 500)...)
	sample.AtOnce(300, func(place int) {
		key, all := row(place)
		again, numbers := row(place)
		if key != again || !slices.Equal(all, numbers) {
			t.Errorf("the row %d comes to %v, and to %v", place, all, numbers)
		}
		b, _ := New(500)
		if !b.Put(place) || !full.Has(place) || full.Count() != 500 || !full.Meets(b) || !b.Meets(full) || !b.Or(full) || b.Key() != full.Key() || full.Copy().Room() != 500 {
			t.Errorf("at once %d is not in a full set", place)
		}
	})
}

// Whoever stops going through the words is handed none behind, and may begin again.
func TestP1402WordsUpToAnEnd(t *testing.T) {
	b := with(t, 1000, 1, 64, 300, 999)
	words := b.some()
	for most := 1; most <= 4; most++ {
		var l []int
		for at := range words {
			if l = append(l, at); len(l) == most {
				break
			}
		}
		if !slices.Equal(l, []int{0, 1, 4, 15}[:most]) {
			t.Errorf("the first %d words are those at %v", most, l)
		}
	}
}

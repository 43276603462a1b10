package intern

import (
	"fmt"
	"math"
	"slices"
	"strings"
	"testing"

	"doublet/sample"
)

// A model is a table as the chapter's sentences tell it: its things stand in a list, by their numbers, and are looked for by Go's == from the first one on.
type model[K comparable] struct {
	none bool
	l    []K
}

func (m *model[K]) put(k K) (int, bool) {
	if i := m.find(k); i >= 0 || m.none {
		return i, false
	}
	m.l = append(m.l, k)
	return len(m.l) - 1, true
}

func (m *model[K]) find(k K) int {
	for i, thing := range m.l {
		if thing == k {
			return i
		}
	}
	return -1
}

func (m *model[K]) key(i int) (K, bool) {
	for at, k := range m.l {
		if at == i {
			return k, true
		}
	}
	var zero K
	return zero, false
}

func (m *model[K]) back(n int) {
	for len(m.l) > 0 && len(m.l)-1 >= n {
		m.l = m.l[:len(m.l)-1]
	}
}

// likeness: are two answers the same? Floats that are no numbers are, here.
func likeness[K comparable](a, b K) bool { return a == b || a != a && b != b }

// A held table is one, and its model.
type held[K comparable] struct {
	x *Table[K]
	m *model[K]
}

func newHeld[K comparable]() held[K] { return held[K]{New[K](), &model[K]{}} }

// put, find, key and back make a call of the table, and hold it against the model's.
func (h held[K]) put(t *testing.T, k K) {
	i, is := h.x.Put(k)
	if want, isNew := h.m.put(k); i != want || is != isNew {
		t.Errorf("Put(%s) is %d, %t, want %d, %t; there are %s", brief(k), i, is, want, isNew, brief(h.m.l))
	}
}

func (h held[K]) find(t *testing.T, k K) {
	if i, want := h.x.Find(k), h.m.find(k); i != want {
		t.Errorf("Find(%s) is %d, want %d; there are %s", brief(k), i, want, brief(h.m.l))
	}
}

func (h held[K]) key(t *testing.T, i int) {
	k, is := h.x.Key(i)
	if want, isThere := h.m.key(i); !likeness(k, want) || is != isThere {
		t.Errorf("Key(%d) is %s, %t, want %s, %t; there are %s", i, brief(k), is, brief(want), isThere, brief(h.m.l))
	}
}

func (h held[K]) back(n int) {
	h.x.Back(n)
	h.m.back(n)
}

// all holds all that a table has against its model.
func (h held[K]) all(t *testing.T) {
	if h.x.Len() != len(h.m.l) || !slices.EqualFunc(h.x.Keys(), h.m.l, likeness) {
		t.Errorf("Len is %d, Keys are %s, want %s", h.x.Len(), brief(h.x.Keys()), brief(h.m.l))
	}
	for i := -2; i < len(h.m.l)+3; i++ {
		h.key(t, i)
	}
	for _, k := range h.m.l {
		h.find(t, k)
	}
}

// anyBack: a number for Back and Key, often one that some thing has.
func anyBack(n int, next func(int) int) int {
	switch next(8) {
	case 0:
		return past(n)[next(len(past(n)))]
	case 1:
		return next(3) - 1
	case 2:
		return n + next(3) - 1
	}
	return next(n + 1)
}

// step makes a random call of a table.
func (h held[K]) step(t *testing.T, thing func() K, next func(int) int) {
	n := len(h.m.l)
	switch next(14) {
	case 0, 1, 2, 3, 4, 5:
		h.put(t, thing())
	case 6, 7:
		h.find(t, thing())
	case 8, 9:
		if n > 0 {
			k := h.m.l[next(n)]
			h.find(t, k)
			h.put(t, k)
		}
	case 10:
		h.key(t, anyBack(n, next))
	case 11:
		if next(3) == 0 {
			h.back(anyBack(n, next))
		}
	case 12:
		h.back(n - next(3))
	case 13:
		keys := h.x.Keys()
		for i := range keys[:cap(keys)] {
			keys[:cap(keys)][i] = thing()
		}
	}
}

// rows makes random rows of calls on tables of some type, nil ones among them, two of which go on at once.
func rows[K comparable](t *testing.T, thing func(next func(int) int) K) {
	t.Helper()
	t.Run(fmt.Sprintf("%T", *new(K)), func(t *testing.T) {
		t.Parallel()
		next := sample.Chances()
		most, gone := 0, 0
		for row := range 300 {
			l := []held[K]{newHeld[K](), newHeld[K]()}
			if row%20 == 0 {
				l[1] = held[K]{nil, &model[K]{none: true}}
			}
			for range 100 {
				h := l[next(2)]
				n := len(h.m.l)
				h.step(t, func() K { return thing(next) }, next)
				if len(h.m.l) < n {
					gone++
				}
				most = max(most, len(h.m.l))
				l[0].all(t)
				l[1].all(t)
				if t.Failed() {
					return
				}
			}
		}
		if most < 2 || gone < 1000 {
			t.Errorf("there were %d things at most, and %d times some went", most, gone)
		}
	})
}

func TestP1502RandomCalls(t *testing.T) {
	t.Parallel()
	long := strings.Repeat("long", 500)
	rows(t, func(next func(int) int) string { return sample.AnyWord(next(4), "ab\x00\xff", next) })
	rows(t, func(next func(int) int) string {
		return long[:next(8)] + string(byte('a'+next(3))) + long[:1000*next(2)]
	})
	rows(t, func(next func(int) int) int {
		if next(3) == 0 {
			return past(9)[next(len(past(9)))]
		}
		return next(40) - 20
	})
	rows(t, func(next func(int) int) uint8 { return uint8(next(256)) })
	rows(t, func(next func(int) int) bool { return next(2) == 0 })
	rows(t, func(next func(int) int) [3]int8 { return [3]int8{int8(next(3)), int8(next(3)), int8(next(2) - 1)} })
	rows(t, func(next func(int) int) part { return part{string(byte('a' + next(3))), next(4), next(2) == 0} })
	rows(t, func(next func(int) int) [2]string {
		return [2]string{sample.AnyWord(next(3), "ab", next), sample.AnyWord(next(3), "ab", next)}
	})
	places := make([]part, 50)
	rows(t, func(next func(int) int) *part {
		if at := next(51); at < 50 {
			return &places[at]
		}
		return nil
	})
	rows(t, func(next func(int) int) float64 {
		return []float64{0, math.Copysign(0, -1), 1, -1, 0.5, math.Inf(1), math.Inf(-1), math.NaN(), float64(next(20))}[next(9)]
	})
	rows(t, func(next func(int) int) any {
		n := next(4)
		return []any{nil, n, int8(n), "a", string(byte('0' + n)), part{at: n}, &places[n], [2]int{n}, n == 0}[next(9)]
	})
}

// All rows of six calls: which of three things is put, and how far back; rows of fewer calls are those that begin with Backs, which of an empty table do nothing.
func TestP1502AllRows(t *testing.T) {
	t.Parallel()
	things := []string{"", "a", "b"}
	backs := []int{-1, 0, 1, 2, 3}
	const long = 6
	calls := len(things) + len(backs)
	n := 1
	for range long {
		n *= calls
	}
	for row := range n {
		h := newHeld[string]()
		rest := row
		for range long {
			if at := rest % calls; at < len(things) {
				h.put(t, things[at])
			} else {
				h.back(backs[at-len(things)])
			}
			rest /= calls
		}
		h.all(t)
		for _, k := range things {
			h.find(t, k)
		}
		for _, k := range []string{"b", "c", "a", ""} {
			h.put(t, k)
		}
		h.all(t)
		if t.Failed() {
			t.Fatalf("the row %d", row)
		}
	}
}

// Tables of their own, at once, answer as they do one behind the other; and those that nobody changes may be asked by all.
func TestP1501AtOnce(t *testing.T) {
	t.Parallel()
	row := func(place int) []string {
		next := sample.Chances()
		x := New[string]()
		for range place {
			x.Put(sample.AnyWord(next(5), "abc", next))
			if next(10) == 0 {
				x.Back(x.Len() - next(4))
			}
		}
		return x.Keys()
	}
	full := with(t, some(300)...)
	sample.AtOnce(300, func(place int) {
		if one, again := row(place), row(place); !slices.Equal(one, again) {
			t.Errorf("the row %d comes to %s, and to %s", place, brief(one), brief(again))
		}
		k, is := full.Key(place)
		if !is || full.Find(k) != place || full.Find("other") != -1 || full.Len() != 300 || !slices.Equal(full.Keys(), some(300)) {
			t.Errorf("at once the thing %d is %q, %t", place, k, is)
		}
	})
}

package sample

import (
	"slices"
	"testing"
)

func TestUpTo(t *testing.T) {
	for _, r := range []struct {
		lo, hi int
		want   []int
	}{{0, 3, []int{0, 1, 2}}, {-2, 1, []int{-2, -1, 0}}, {5, 6, []int{5}}, {0, 0, nil}, {7, 3, nil}} {
		if got := UpTo(r.lo, r.hi); !slices.Equal(got, r.want) {
			t.Errorf("UpTo(%d, %d) is %v, want %v", r.lo, r.hi, got, r.want)
		}
	}
}

// Lists in other orders have the same elements, and what was handed in stays as it is.
func TestOrders(t *testing.T) {
	next := Chances()
	met := map[string]int{}
	for n := range 20 {
		l := UpTo(0, n)
		for range 100 {
			turned, shuffled := Turned(l), Shuffled(l, next)
			if n == 3 {
				met[string([]byte{'0' + byte(shuffled[0]), '0' + byte(shuffled[1]), '0' + byte(shuffled[2])})]++
			}
			slices.Reverse(turned)
			slices.Sort(shuffled)
			if !slices.Equal(turned, l) || !slices.Equal(shuffled, l) || !slices.Equal(l, UpTo(0, n)) {
				t.Fatalf("of %d numbers come %v, and %v, and they are %v", n, turned, shuffled, l)
			}
		}
	}
	if len(met) != 6 {
		t.Errorf("so often each order is met: %v", met)
	}
}

func TestOneOfMany(t *testing.T) {
	next := Chances()
	calls := 0
	l := Many(1000, func() string {
		calls++
		return OneOf([]string{"a", "b", "c"}, next)
	})
	met := map[string]int{}
	for _, text := range l {
		met[text]++
	}
	if calls != 1000 || len(l) != 1000 || len(met) != 3 || min(met["a"], met["b"], met["c"]) < 200 {
		t.Errorf("there are %d texts, of %d calls: %v", len(l), calls, met)
	}
	if got := Many(0, func() int { return 1 }); len(got) != 0 {
		t.Errorf("Many of none are %v", got)
	}
}

func TestListMemory(t *testing.T) {
	for n := range 5 {
		l := UpTo(0, n)
		x := RoomyList(l, 8, 9)
		if !slices.Equal(x, l) || SharedLists(x, l) || !slices.Equal(StretchedList(x)[:n+2], append(UpTo(0, n), 8, 9)) {
			t.Errorf("RoomyList is %v, in %v", x, StretchedList(x))
		}
		ScribbleList(x, 7)
		if slices.ContainsFunc(StretchedList(x), func(some int) bool { return some != 7 }) || !slices.Equal(l, UpTo(0, n)) {
			t.Errorf("ScribbleList leaves %v", StretchedList(x))
		}
	}
	ScribbleList[string](nil, "x")
}

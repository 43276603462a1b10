package sample

import (
	"slices"
	"testing"

	"doublet/api"
	"doublet/dfa"
)

// Each fault is met; some machines may be; what was handed in stays as it is.
func TestSpoiltDfa(t *testing.T) {
	next := Chances()
	met := map[string]int{}
	for i := range 4000 {
		d := AnyDfa(1+i%9, next)
		kept := StretchedDfa(RoomyDfa(d))
		given := RoomyDfa(d)
		x := SpoiltDfa(given, next)
		for _, fault := range faultsOf(x) {
			met[fault]++
		}
		if dfa.Right(x) {
			met["none"]++
		}
		if dfa.Same(x, d) {
			met["same"]++
		}
		if !dfa.Same(StretchedDfa(given), kept) {
			t.Fatalf("what was handed in is %v, and was %v", StretchedDfa(given), kept)
		}
	}
	for _, fault := range []string{"classes", "width", "rows", "row", "behind", "label", "many names", "names twice", "name", "none", "same"} {
		if met[fault] < 40 || met[fault] > 2000 {
			t.Errorf("so often each fault is met: %v", met)
		}
	}
}

func TestDfaNumber(t *testing.T) {
	next := Chances()
	d := Leading(5, 3, 2)
	met := map[int]int{}
	for range 2000 {
		met[DfaNumber(d, next)]++
	}
	for _, n := range append(Outside(5), 0, 1, 2, 3, 4, 5, 6, 255, 256, 65536) {
		if met[n] < 10 {
			t.Errorf("so often %d is met: %v", n, met)
		}
	}
}

// Lists, and rooms behind them, that lie in one memory, and such that do not.
func TestSharedLists(t *testing.T) {
	l := make([]int, 4, 8)
	for i, r := range []struct {
		lists [][]int
		want  bool
	}{
		{nil, false}, {[][]int{nil, {}, nil}, false}, {[][]int{l}, false}, {[][]int{l, nil, slices.Clone(l)}, false}, {[][]int{l[0:2:2], l[2:4:4], l[4:4]}, false},
		{[][]int{l, l}, true}, {[][]int{l[:2], l[3:]}, true}, {[][]int{{1}, l[:0], l[7:8]}, true}, {[][]int{l[0:3:3], {5}, l[2:4]}, true},
	} {
		if got := SharedLists(r.lists...); got != r.want {
			t.Errorf("SharedLists of the lists %d is %t", i, got)
		}
	}
}

// Each list of a machine that lies in another one's.
func TestSharedDfas(t *testing.T) {
	own := func() api.Dfa { return RoomyDfa(Leading(3, 2, 2)) }
	d := own()
	if SharedDfas() || SharedDfas(api.Dfa{}, api.Dfa{}) || SharedDfas(d) || SharedDfas(d, own(), own()) {
		t.Error("machines of their own share memory")
	}
	for i, share := range []func(x *api.Dfa){
		func(x *api.Dfa) { x.Next = d.Next }, func(x *api.Dfa) { x.Next[2] = d.Next[0] }, func(x *api.Dfa) { x.Next[1] = d.Label }, func(x *api.Dfa) { x.Label = d.Next[1][:0] },
		func(x *api.Dfa) { x.Label = d.Label }, func(x *api.Dfa) { x.Names = d.Names[:1] }, func(x *api.Dfa) { x.Names = d.Names[2:3] }, func(x *api.Dfa) { x.Next[0] = x.Next[1] }, func(x *api.Dfa) { x.Next[:4][3] = d.Next[0] },
	} {
		x := own()
		if share(&x); !SharedDfas(own(), d, x) || !SharedDfas(x, d) {
			t.Errorf("machines do not share memory, by %d", i)
		}
	}
}

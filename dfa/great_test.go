package dfa

import (
	"slices"
	"testing"

	"doublet/api"
	"doublet/sample"
)

// great: a machine of as many states and classes as may be. Behind a state stand, by the first class, the next one; by all others such as lie far off; and the last one leads to 0 by all.
func great() api.Dfa {
	d := leading(most, 256, 64)
	d.Next[most-1] = make([]int, 256)
	return d
}

// As many states and classes as may be: each call, and each kind of fault at the last place.
func TestGreatMachine(t *testing.T) {
	t.Parallel()
	d := great()
	holdRight(t, d, true, "as great as may be,")
	holdSame(t, d, d, true)
	for _, s := range []int{0, 1, 2, most / 2, most - 2, most - 1} {
		for _, b := range []byte{0, 1, 255} {
			want := (s*(int(b)+1) + 1) % most
			if s == most-1 {
				want = 0
			}
			if got := To(d, s, b); got != want {
				t.Errorf("To(%d, %d) is %d, want %d", s, b, got, want)
			}
		}
		w := make([]byte, s)
		holdTold(t, d, told{string(w), s, s % 65, append([]string{""}, d.Names...)[s%65]})
	}
	holdTold(t, d, told{string(make([]byte, most)), 0, 0, ""})
	if got := To(d, most, 0); got != -1 {
		t.Errorf("To(%d, 0) is %d", most, got)
	}
	last := most - 1
	for fault, x := range map[string]api.Dfa{
		"row": withRow(d, last, d.Next[0][:255]), "behind": withNext(d, last, 255, most), "label": withLabel(d, last, 65), "names": withName(d, 63, "x"),
	} {
		holdRight(t, x, false, "with a fault at the end, %s,", fault)
		holdNothing(t, fault, x)
	}
	holdSame(t, d, withNext(d, last, 255, 1), false)
	holdSame(t, d, withLabel(d, last, 0), false)
	holdSame(t, d, withName(d, 63, "y"), false)
}

// Reach, Live, Keep and Trim of such a machine.
func TestGreatStates(t *testing.T) {
	t.Parallel()
	d := great()
	// Level by level: a state that was met ahead is passed over, here by bits.
	var met [most/64 + 1]uint64
	reach := []int{0}
	met[0] = 1
	for at := 0; at < len(reach); at++ {
		for _, to := range d.Next[reach[at]] {
			if met[to/64]>>(to%64)&1 == 0 {
				met[to/64] |= 1 << (to % 64)
				reach = append(reach, to)
			}
		}
	}
	if len(reach) != most || slices.IsSorted(reach) {
		t.Errorf("there are %d states", len(reach))
	}
	holdReach(t, d, reach...)
	holdLive(t, d, upTo(0, most)...)
	holdLive(t, labels(d, most-1), upTo(0, most)...)
	holdLive(t, labels(d))

	x, wrong := Trim(d)
	if wrong != api.OK || !Right(x) || len(x.Label) != most || x.Of != d.Of || x.Width != 256 || !slices.Equal(x.Names, d.Names) {
		t.Fatalf("Trim tells %d, and %s", wrong, brief(x))
	}
	for place, s := range reach {
		if x.Label[place] != d.Label[s] {
			t.Fatalf("behind Trim the label at %d is %d, want %d", place, x.Label[place], d.Label[s])
		}
		for class, to := range x.Next[place] {
			if reach[to] != d.Next[s][class] {
				t.Fatalf("behind Trim by %d stands %d behind %d", class, to, place)
			}
		}
	}
	holdReach(t, x, upTo(0, most)...)
	holdTrim(t, x, x)
	holdKeepError(t, d, reach[:most-1], api.ErrArg)
	holdKeepError(t, d, append(reach, 0), api.ErrArg)
}

// Half of the states of such a machine lead to the other half, which leads to itself alone.
func TestGreatHalves(t *testing.T) {
	t.Parallel()
	const half = most / 2
	d := quiet(most, 256)
	for s, row := range d.Next {
		for class := range row {
			row[class] = (s + class*97) % half
			if s >= half && class < 128 {
				row[class] += half
			}
		}
	}
	// What is odd, as 97 is, goes through all of a half, which is a power of 2.
	reach := Reach(d)
	slices.Sort(reach)
	holdList(t, reach, upTo(0, half), "Reach of halves, sorted,")
	holdLive(t, labels(d, 5), upTo(0, most)...)
	holdLive(t, labels(d, half+5), upTo(half, most)...)
	x, wrong := Keep(d, upTo(0, half))
	want := d
	want.Next, want.Label = d.Next[:half], d.Label[:half]
	holdDfa(t, x, wrong, want, "Keep of one half")
	holdKeepError(t, d, append([]int{0}, upTo(half, most)...), api.ErrArg)
	holdKeep(t, d, upTo(0, most), d)
}

// Lists far longer than there may be states, or names: each call ends soon.
func TestGreatLists(t *testing.T) {
	t.Parallel()
	d := quiet(3, 2)
	far := 1 << 22
	for _, x := range []api.Dfa{
		{Of: d.Of, Width: 2, Next: d.Next, Label: make([]int, far)},
		{Of: d.Of, Width: 2, Next: make([][]int, far), Label: d.Label},
		{Of: d.Of, Width: 2, Next: make([][]int, far), Label: make([]int, far)},
		{Of: d.Of, Width: 2, Next: slices.Repeat(d.Next[:1], far), Label: make([]int, far)},
		{Of: d.Of, Width: 2, Next: d.Next, Label: d.Label, Names: make([]string, far)},
		{Of: d.Of, Width: 2, Next: d.Next, Label: d.Label, Names: called(1 << 16)},
		{Of: d.Of, Width: far, Next: [][]int{make([]int, far), make([]int, far), make([]int, far)}, Label: d.Label},
		withRow(d, 1, make([]int, far)),
	} {
		holdRight(t, x, false, "with far too long a list,")
		holdNothing(t, "of far too long a list", x)
		holdSame(t, x, x, true)
		holdSame(t, x, d, false)
	}
}

// Machines of whatever numbers there are.
func TestWhateverIsHandedIn(t *testing.T) {
	t.Parallel()
	next := sample.Chances()
	numbers := []int{least, least + 1, -1 << 32, -65536, -2, -1, 0, 1, 2, 3, 64, 65, 255, 256, 257, 65535, 65536, 65537, 1 << 32, greatest - 1, greatest}
	some := func() int {
		if next(2) == 0 {
			return next(3)
		}
		return numbers[next(len(numbers))]
	}
	list := func() []int {
		var l []int
		for range next(4) {
			l = append(l, some())
		}
		return l
	}
	right := 0
	for range 20000 {
		d := sample.AnyDfa(1+next(3), next)
		if next(8) == 0 {
			d.Width = some()
		}
		if next(8) == 0 {
			d.Label = list()
		}
		if next(8) == 0 {
			d.Next = nil
			for range next(4) {
				d.Next = append(d.Next, list())
			}
		}
		if next(8) == 0 {
			d.Names = nil
			for range next(3) {
				d.Names = append(d.Names, []string{"", "a", "b", "9", "a b"}[next(5)])
			}
		}
		if next(8) == 0 {
			d.Of[next(256)] = uint8(some())
		}
		m := modelOf(d)
		if m.may {
			right++
		}
		holdLists(t, m, list(), list(), []int{0})
		holdWord(t, m, sample.AnyWord(next(4), sample.Edgy, next))
		holdTo(t, m, some(), byte(some()))
		if t.Failed() {
			return
		}
	}
	if right < 2000 || right > 18000 {
		t.Errorf("%d of the machines may be", right)
	}
}

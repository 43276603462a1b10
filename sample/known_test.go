package sample

import (
	"fmt"
	"slices"
	"testing"

	"doublet/api"
	"doublet/dfa"
)

func TestWithLabels(t *testing.T) {
	d := Ring("a", 1, 0)
	x := WithLabels(d, "x y", []int{2, 1})
	if fmt.Sprint(x.Next, x.Label, x.Names) != "[[1] [0]] [2 1] [x y]" || fmt.Sprint(d.Label, d.Names) != "[1 0] [a]" {
		t.Errorf("with other labels there is %v, and there was %v", x, d)
	}
}

func TestRow(t *testing.T) {
	if d := Row(3); fmt.Sprint(d.Next, d.Label, d.Names, d.Width) != "[[1] [2] [2]] [0 0 1] [x] 1" {
		t.Errorf("a row is %v", d)
	}
	if d := Row(1); fmt.Sprint(d.Next, d.Label) != "[[0]] [0]" {
		t.Errorf("a row of one state is %v", d)
	}
}

func TestShifted(t *testing.T) {
	if d := Shifted(2); fmt.Sprint(d.Next, d.Label, d.Names, d.Width) != "[[0 1] [2 3] [0 1] [2 3]] [0 0 1 1] [x] 2" {
		t.Errorf("bits that go by are %v", d)
	}
	// Words lead from 0 to all states.
	if d := Shifted(8); !slices.Equal(dfa.Reach(d), UpTo(0, 256)) {
		t.Errorf("words lead to %v", dfa.Reach(d))
	}
}

func TestBitwise(t *testing.T) {
	if d := Bitwise(2); fmt.Sprint(d.Next, d.Label, d.Names, d.Width) != "[[0 0] [1 0] [0 2] [3 3]] [1 0 0 0] [x] 2" {
		t.Errorf("numbers by their bits are %v", d)
	}
}

// They may be, and no two states of them are alike.
func TestKnown(t *testing.T) {
	for n := 1; n <= 6; n++ {
		for _, d := range []api.Dfa{Row(n), Row(10 * n), Shifted(n), Bitwise(n)} {
			apart := Apart(d)
			if l := Grouped(len(apart), func(s, other int) bool { return apart[s][other] < 0 }); !dfa.Right(d) || !slices.Equal(l, UpTo(0, len(d.Label))) {
				t.Errorf("states of %v are alike as %v", d, l)
			}
		}
	}
}

func TestRenumbered(t *testing.T) {
	d := Rows("x y", []int{0, 1, 2}, []int{1, 2}, []int{1, 0}, []int{0, 2})
	x := Renumbered(d, []int{2, 0, 1})
	if fmt.Sprint(x.Next, x.Label, x.Names) != "[[0 2] [2 1] [0 1]] [1 2 0] [x y]" {
		t.Errorf("at other places there is %v", x)
	}
	if l := Moved([]int{7, 8, 9}, []int{2, 0, 1}); !slices.Equal(l, []int{8, 9, 7}) {
		t.Errorf("at other places there are %v", l)
	}
	next := Chances()
	for range 300 {
		d := AnyDfa(1+next(20), next)
		given := RoomyDfa(d)
		kept := StretchedDfa(RoomyDfa(d))
		places := Shuffled(UpTo(0, len(d.Label)), next)
		x := Renumbered(given, places)
		// Where each place went to, it goes back.
		back := Renumbered(x, Moved(UpTo(0, len(places)), places))
		if !dfa.Right(x) || !dfa.Same(back, d) {
			t.Fatalf("at other places, %v, there is %v, of %v", places, x, d)
		}
		if SharedLists(append(x.Next, given.Next...)...) || SharedLists(x.Label, given.Label) || !dfa.Same(StretchedDfa(given), kept) {
			t.Fatalf("what was handed in is %v, and was %v", StretchedDfa(given), kept)
		}
	}
}

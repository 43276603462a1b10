package sample

import (
	"slices"
	"testing"

	"doublet/api"
	"doublet/dfa"
	"doublet/parts"
)

// unlike: what of an unfolded machine is not as it has to be; "" of a right one.
func unlike(d, x api.Dfa, as []int, states int) string {
	if !dfa.Right(x) || len(x.Label) != states || len(as) != states || x.Of != d.Of || !slices.Equal(x.Names, d.Names) {
		return "the machine"
	}
	if as[0] != 0 {
		return "the first state"
	}
	for one := range d.Label {
		if !slices.Contains(as, one) {
			return "a state that is not met"
		}
	}
	for s, one := range as {
		if x.Label[s] != d.Label[one] {
			return "a label"
		}
		for class, to := range x.Next[s] {
			if as[to] != d.Next[one][class] {
				return "a state behind one"
			}
		}
	}
	return ""
}

func TestUnfolded(t *testing.T) {
	next := Chances()
	several, mixed := 0, 0
	for i := range 1000 {
		d := AnyDfa(1+i%7, next)
		kept := StretchedDfa(RoomyDfa(d))
		given := RoomyDfa(d)
		states := len(d.Label) + i%20
		x, as := Unfolded(given, states, next)
		if what := unlike(d, x, as, states); what != "" {
			t.Fatalf("of %v comes %v, %v: wrong is %s", d, x, as, what)
		}
		if SharedDfas(x, given) || !dfa.Same(StretchedDfa(given), kept) {
			t.Fatalf("what was handed in is %v, and was %v", StretchedDfa(given), kept)
		}
		if !slices.IsSorted(as) {
			mixed++
		}
		// Two states that are as one, and have rows of their own.
		for s := range as {
			if first := slices.Index(as, as[s]); !slices.Equal(x.Next[first], x.Next[s]) {
				several++
				break
			}
		}
	}
	if mixed < 700 || several < 500 {
		t.Errorf("%d machines are not in order, and in %d some rows are others", mixed, several)
	}
}

func TestSpread(t *testing.T) {
	next := Chances()
	wider, same := 0, 0
	for i := range 1000 {
		d := AnyDfa(1+i%7, next)
		kept := StretchedDfa(RoomyDfa(d))
		given := RoomyDfa(d)
		x := Spread(given, []int{1, 2, 3, 256}[i%4], next)
		if joined, width := parts.Join(x.Of, d.Of); !dfa.Right(x) || joined != x.Of || width != x.Width || !slices.Equal(x.Label, d.Label) || !slices.Equal(x.Names, d.Names) {
			t.Fatalf("of %v comes %v", d, x)
		}
		for b := range 256 {
			for s := range d.Label {
				if got, want := x.Next[s][x.Of[b]], d.Next[s][d.Of[b]]; got != want {
					t.Fatalf("by %d stands %d behind %d, want %d, of %v", b, got, s, want, d)
				}
			}
		}
		if SharedDfas(x, given) || !dfa.Same(StretchedDfa(given), kept) {
			t.Fatalf("what was handed in is %v, and was %v", StretchedDfa(given), kept)
		}
		if x.Width > d.Width {
			wider++
		}
		if i%4 == 0 && dfa.Same(x, d) {
			same++
		}
	}
	if wider < 500 || same != 250 {
		t.Errorf("%d machines have more classes, and %d are the same", wider, same)
	}
}

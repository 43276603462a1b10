package sample

import (
	"fmt"
	"slices"
	"testing"

	"doublet/api"
	"doublet/quotient"
)

func TestByAndRest(t *testing.T) {
	if got := By(4, func(s int) int { return s * s }); !slices.Equal(got, []int{0, 1, 4, 9}) {
		t.Errorf("By is %v", got)
	}
	if got := By(0, func(s int) int { return 1 / s }); len(got) != 0 {
		t.Errorf("By of none is %v", got)
	}
	for _, r := range []struct {
		states, by int
		want       []int
	}{{5, 2, []int{0, 1, 0, 1, 0}}, {3, 1, []int{0, 0, 0}}, {2, 7, []int{0, 1}}, {0, 3, nil}} {
		if got := Rest(r.states, r.by); !slices.Equal(got, r.want) {
			t.Errorf("Rest(%d, %d) is %v, want %v", r.states, r.by, got, r.want)
		}
	}
}

// All blocks are there, each once: there are as many as ways to part so many states.
func TestPartitions(t *testing.T) {
	for states, want := range []int{1, 1, 2, 5, 15, 52, 203, 877} {
		met := map[string]int{}
		for _, l := range Partitions(states) {
			if len(l) != states || !slices.Equal(quotient.Norm(l), l) {
				t.Errorf("of %d states there are %v", states, l)
			}
			met[fmt.Sprint(l)]++
		}
		if len(met) != want || len(Partitions(states)) != want {
			t.Errorf("of %d states there are %d blocks, want %d", states, len(met), want)
		}
	}
}

func TestGrouped(t *testing.T) {
	text := "banana, an ant"
	got := Grouped(len(text), func(x, y int) bool { return text[x] == text[y] })
	if !slices.Equal(got, []int{0, 1, 2, 1, 2, 1, 3, 4, 1, 2, 4, 1, 2, 5}) {
		t.Errorf("Grouped is %v", got)
	}
	if got := Grouped(0, nil); len(got) != 0 {
		t.Errorf("Grouped of none is %v", got)
	}
}

// leastApart: the same number as Apart has, by all words of one byte of each class, up to so many bytes.
func leastApart(d api.Dfa, s, other, most int) int {
	bytes := make([]byte, d.Width)
	for b, class := range d.Of {
		bytes[class] = byte(b)
	}
	for _, w := range AllWords(string(bytes), most) {
		x, y := s, other
		for i := range len(w) {
			x, y = d.Next[x][d.Of[w[i]]], d.Next[y][d.Of[w[i]]]
		}
		if d.Label[x] != d.Label[y] {
			return len(w)
		}
	}
	return -1
}

// Words of fewer bytes than there are states are enough; some more are asked for.
func TestApart(t *testing.T) {
	met := map[int]int{}
	hold := func(d api.Dfa, most int) {
		t.Helper()
		apart := Apart(d)
		for s := range d.Label {
			for other := range d.Label {
				want := leastApart(d, s, other, most)
				if met[want]++; apart[s][other] != want {
					t.Errorf("%d and %d are apart by %d bytes, want %d, in %v", s, other, apart[s][other], want, d)
				}
			}
		}
	}
	for _, size := range [][3]int{{1, 1, 1}, {2, 1, 2}, {2, 2, 1}, {3, 1, 2}, {3, 2, 1}, {4, 1, 1}} {
		EachDfa(size[0], size[1], size[2], func(d api.Dfa) {
			if !t.Failed() {
				hold(d, size[0]+1)
			}
		})
	}
	next := Chances()
	for range 200 {
		d := AnyDfa(1+next(5), next)
		if d.Width <= 3 && !t.Failed() {
			hold(d, 6)
		}
	}
	if min(met[-1], met[0], 4*met[1], 20*met[2]) < 4000 {
		t.Errorf("so often two were apart by so many bytes: %v", met)
	}
}

func TestRing(t *testing.T) {
	if d := Ring("x y", 0, 2, 1); fmt.Sprint(d.Next, d.Label, d.Names, d.Width) != "[[1] [2] [0]] [0 2 1] [x y] 1" {
		t.Errorf("a ring is %v", d)
	}
	if d := Ring("", 0); fmt.Sprint(d) != fmt.Sprint(Quiet(1, 1)) {
		t.Errorf("a ring of one state is %v", d)
	}
}

// The blocks are Stable, and often fewer than states; some machines have classes that they do not need.
func TestAnyUnfolded(t *testing.T) {
	next := Chances()
	fewer, wider := 0, 0
	for i := range 1000 {
		most := 1 + i%12
		d, l := AnyUnfolded(most, next)
		if len(d.Label) > 2*most || !quotient.Stable(d, l) {
			t.Fatalf("of %d states there is %v, with %v", most, d, l)
		}
		if slices.Max(quotient.Norm(l)) < len(l)-1 {
			fewer++
		}
		if merged, _ := quotient.Merge(d); merged.Width < d.Width {
			wider++
		}
	}
	if min(fewer, 1000-fewer, wider, 1000-wider) < 150 {
		t.Errorf("%d times there are fewer blocks than states, %d times more classes than are needed", fewer, wider)
	}
}

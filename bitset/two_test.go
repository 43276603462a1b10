package bitset

import (
	"fmt"
	"slices"
	"testing"
)

func TestP1402Or(t *testing.T) {
	for _, c := range []struct {
		room, other int
		l, more     []int
		is          bool
		want        []int
	}{
		{0, 0, nil, nil, false, nil},
		{0, 130, nil, []int{0, 1, 129}, false, nil},
		{130, 0, []int{0, 129}, nil, false, []int{0, 129}},
		{130, 130, nil, nil, false, nil},
		{130, 130, []int{1, 2}, nil, false, []int{1, 2}},
		{130, 130, nil, []int{0, 63, 64, 127, 128, 129}, true, []int{0, 63, 64, 127, 128, 129}},
		// All were there, one was, some were, none was.
		{130, 130, []int{0, 63, 64, 129}, []int{0, 63, 64, 129}, false, []int{0, 63, 64, 129}},
		{130, 130, []int{0, 63, 64, 129}, []int{0, 64}, false, []int{0, 63, 64, 129}},
		{130, 130, []int{0, 63, 64}, []int{0, 63, 64, 129}, true, []int{0, 63, 64, 129}},
		{130, 130, []int{63, 64, 129}, []int{0, 63, 64, 129}, true, []int{0, 63, 64, 129}},
		{130, 130, []int{63}, []int{62, 63, 65}, true, []int{62, 63, 65}},
		{130, 130, []int{0, 64}, []int{1, 65, 128}, true, []int{0, 1, 64, 65, 128}},
		// The first word brings something, the last one nothing, and the other way round.
		{130, 130, []int{128}, []int{5, 128}, true, []int{5, 128}},
		{130, 130, []int{5}, []int{5, 128}, true, []int{5, 128}},
		// More room than the other one has.
		{130, 65, []int{64, 100, 129}, []int{0, 64}, true, []int{0, 64, 100, 129}},
		{130, 65, []int{0, 64, 129}, []int{0, 64}, false, []int{0, 64, 129}},
		{Most, 1, []int{Most - 1}, []int{0}, true, []int{0, Most - 1}},
		// Less room: what there is none for stays out, and is not told of.
		{65, 130, nil, []int{0, 63, 64, 65, 66, 127, 128, 129}, true, []int{0, 63, 64}},
		{65, 130, []int{0, 63, 64}, []int{0, 63, 64, 65, 127, 129}, false, []int{0, 63, 64}},
		{65, 130, []int{1}, []int{65}, false, []int{1}},
		{65, 130, []int{1}, []int{127}, false, []int{1}},
		{65, 130, nil, []int{128}, false, nil},
		{64, 130, nil, []int{64, 65, 129}, false, nil},
		{64, 130, nil, []int{63, 64}, true, []int{63}},
		{63, 64, []int{62}, []int{63}, false, []int{62}},
		{63, 64, nil, []int{62, 63}, true, []int{62}},
		{1, 64, nil, upTo(1, 64), false, nil},
		{1, 64, nil, upTo(0, 64), true, []int{0}},
		{100, 128, upTo(0, 100), upTo(0, 128), false, upTo(0, 100)},
		{Most - 1, Most, nil, []int{Most - 1}, false, nil},
		{Most - 1, Most, nil, []int{Most - 2, Most - 1}, true, []int{Most - 2}},
		{1, Most, nil, []int{1, 64, Most - 1}, false, nil},
		{Most, Most, []int{0}, []int{Most - 1}, true, []int{0, Most - 1}},
	} {
		name := fmt.Sprintf("room for %d and %d, %s and %s", c.room, c.other, brief(c.l), brief(c.more))
		b, other := with(t, c.room, c.l...), with(t, c.other, c.more...)
		if b.Or(other) != c.is {
			t.Errorf("%s: Or is %t", name, !c.is)
		}
		hold(t, name, b, c.room, c.want)
		hold(t, name+": the other one", other, c.other, c.more)
		if b.Or(other) {
			t.Errorf("%s: the second Or is true", name)
		}
		hold(t, name+": twice", b, c.room, c.want)
	}
}

// For each number alone, of each room: it is put just if there is room for it.
func TestP1402OrOneNumber(t *testing.T) {
	for _, n := range rooms() {
		for _, m := range rooms() {
			for _, i := range fitting(m) {
				b, c := empty(t, n), with(t, m, i)
				var want []int
				if i < n {
					want = []int{i}
				}
				if is := b.Or(c); is != (i < n) || !slices.Equal(b.All(), want) || b.Room() != n || b.Or(c) {
					t.Errorf("%d of room for %d, put into room for %d: %t, %v", i, m, n, is, b.All())
				}
				if meets := i < n; b.Meets(c) != meets || c.Meets(b) != meets {
					t.Errorf("%d of room for %d, put into room for %d: they meet: %t, %t", i, m, n, b.Meets(c), c.Meets(b))
				}
			}
		}
	}
}

func TestP1402OrItself(t *testing.T) {
	for _, n := range rooms() {
		for _, l := range [][]int{nil, fitting(n)} {
			b := with(t, n, l...)
			if b.Or(b) || b.Or(b.Copy()) {
				t.Errorf("Or of %v with itself is true", l)
			}
			hold(t, "a set with itself", b, n, l)
		}
	}
}

// What was put out of another set stays its own.
func TestP1402OrKeepsApart(t *testing.T) {
	for _, n := range []int{65, 130, 200} {
		b, c := empty(t, n), with(t, 130, 0, 63, 64)
		b.Or(c)
		b.Take(0)
		b.Put(1)
		hold(t, "the other set", c, 130, []int{0, 63, 64})
		c.Take(63)
		c.Put(2)
		hold(t, "the set", b, n, []int{1, 63, 64})
		hold(t, "the other set", c, 130, []int{0, 2, 64})
	}
}

func TestP1402Meets(t *testing.T) {
	for _, c := range []struct {
		room, other int
		l, m        []int
		want        bool
	}{
		{0, 0, nil, nil, false}, {0, 130, nil, []int{0, 129}, false}, {130, 130, nil, nil, false}, {130, 130, nil, []int{0, 64, 129}, false},
		{130, 130, []int{0}, []int{0}, true}, {130, 130, []int{0}, []int{1}, false}, {130, 130, []int{0}, []int{64}, false}, {130, 130, []int{0, 64}, []int{128}, false},
		{130, 130, []int{63}, []int{63}, true}, {130, 130, []int{63}, []int{64}, false}, {130, 130, []int{63}, []int{62}, false}, {130, 130, []int{63}, []int{127}, false},
		{130, 130, []int{64}, []int{64}, true}, {130, 130, []int{127}, []int{127}, true}, {130, 130, []int{127}, []int{128}, false}, {130, 130, []int{129}, []int{129}, true},
		{130, 130, []int{0, 64, 128}, []int{1, 65, 129}, false}, {130, 130, []int{0, 64, 128}, []int{1, 65, 128}, true}, {130, 130, []int{0, 64, 128}, []int{0, 65, 129}, true}, {130, 130, []int{0, 64, 128}, []int{1, 64, 129}, true},
		{130, 130, []int{0, 63, 64, 129}, []int{0, 63, 64, 129}, true}, {130, 130, upTo(0, 130), []int{77}, true}, {130, 130, upTo(0, 77), upTo(77, 130), false}, {130, 130, upTo(0, 78), upTo(77, 130), true},
		{65, 130, []int{64}, []int{64}, true}, {65, 130, []int{64}, []int{65}, false}, {65, 130, []int{64}, []int{128, 129}, false}, {65, 130, []int{0}, []int{64, 128}, false}, {65, 130, []int{1}, []int{65, 129}, false},
		{64, 130, []int{63}, []int{63, 64}, true}, {64, 130, []int{0}, []int{64}, false}, {64, 130, upTo(0, 64), upTo(64, 130), false}, {65, 130, upTo(0, 65), upTo(64, 130), true},
		{1, Most, []int{0}, []int{0}, true}, {1, Most, []int{0}, []int{64, Most - 1}, false}, {Most, Most, []int{Most - 1}, []int{Most - 1}, true}, {Most - 1, Most, []int{Most - 2}, []int{Most - 1}, false}, {Most - 1, Most, []int{Most - 2}, []int{Most - 2}, true},
	} {
		name := fmt.Sprintf("room for %d and %d, %s and %s", c.room, c.other, brief(c.l), brief(c.m))
		b, other := with(t, c.room, c.l...), with(t, c.other, c.m...)
		if b.Meets(other) != c.want || other.Meets(b) != c.want {
			t.Errorf("%s: Meets is %t, and the other way round %t", name, b.Meets(other), other.Meets(b))
		}
		hold(t, name, b, c.room, c.l)
		hold(t, name+": the other one", other, c.other, c.m)
		if b.Meets(b) != (len(c.l) > 0) || b.Meets(b.Copy()) != (len(c.l) > 0) || other.Meets(other) != (len(c.m) > 0) {
			t.Errorf("%s: each with itself: %t, %t", name, b.Meets(b), other.Meets(other))
		}
	}
}

// Sets of one number meet just if it is the same one.
func TestP1402MeetsOneNumber(t *testing.T) {
	l := edges(130)
	for _, i := range l {
		for _, j := range l {
			if i < 0 || j < 0 {
				continue
			}
			b, c := with(t, i+1, i), with(t, j+1, j)
			if b.Meets(c) != (i == j) {
				t.Errorf("%d alone and %d alone: Meets is %t", i, j, b.Meets(c))
			}
		}
	}
}

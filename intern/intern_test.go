package intern

import (
	"fmt"
	"math"
	"runtime"
	"slices"
	"testing"
	"weak"
)

// The chapter's example.
func TestP1502Example(t *testing.T) {
	table := New[string]()
	for _, c := range []struct {
		k  string
		i  int
		is bool
	}{{"x", 0, true}, {"y", 1, true}, {"x", 0, false}} {
		if i, is := table.Put(c.k); i != c.i || is != c.is {
			t.Errorf("Put(%s) is %d, %t, want %d, %t", c.k, i, is, c.i, c.is)
		}
	}
	hold(t, "x, y, x", table, []string{"x", "y"}, "", "z", "xy")
}

// What was put once, is put twice at once, several times, and much later.
func TestP1502PutAgain(t *testing.T) {
	x := New[string]()
	l := some(3000)
	for n, k := range l {
		putNew(t, x, k)
		for range 1 + n%3 {
			putAgain(t, x, k, n)
		}
		putAgain(t, x, l[0], 0)
		putAgain(t, x, l[n/2], n/2)
	}
	for n := range l {
		putAgain(t, x, fmt.Sprint("thing ", len(l)-1-n), len(l)-1-n)
	}
	for n, k := range l {
		putAgain(t, x, k, n)
		putAgain(t, x, k, n)
	}
	hold(t, "3000 things, put many times", x, l, "", "thing", "thing 3000", "thing -1")
	putNew(t, x, "one more")
	hold(t, "one more", x, append(l, "one more"), "thing 3000")
}

// The zero value is a thing as others are: it is there if it was put.
func TestP1502ZeroValue(t *testing.T) {
	hold(t, "without numbers", New[int](), nil, 0)
	hold(t, "without 0", with(t, 5, 3), []int{5, 3}, 0)
	hold(t, "with 0 alone", with(t, 0), []int{0}, 1)
	hold(t, "with 0 behind", with(t, 5, 0), []int{5, 0}, 1)
	x := with(t, "a", "", "b")
	hold(t, "with an empty text", x, []string{"a", "", "b"}, "c")
	x.Back(1)
	hold(t, "with an empty text no more", x, []string{"a"}, "", "b")
	putNew(t, x, "b", "")
	hold(t, "with an empty text again", x, []string{"a", "b", ""})
}

// To ask is to put nothing, however often.
func TestP1502AskingPutsNothing(t *testing.T) {
	for _, l := range [][]string{nil, {"a"}, {"a", "", "c"}, some(1000)} {
		x := with(t, l...)
		for range 3 {
			for _, k := range []string{"other", "thing 1000", "A", "b"} {
				if i := x.Find(k); i != -1 || x.Len() != len(l) {
					t.Errorf("of %d things Find(%s), which is none, is %d; Len is %d then", len(l), k, i, x.Len())
				}
			}
			hold(t, fmt.Sprintf("%d things, asked for others", len(l)), x, l, "other", "thing 1000", "A", "b")
		}
		putNew(t, x, "other", "b")
		hold(t, fmt.Sprintf("%d things, and two more", len(l)), x, append(l, "other", "b"), "A")
	}
}

func TestP1502Key(t *testing.T) {
	for n := range 70 {
		l := some(n)
		hold(t, fmt.Sprintf("%d things", n), with(t, l...), l, "", fmt.Sprint("thing ", n))
		x := with(t, l...)
		for i := -200; i < 200; i++ {
			want := ""
			if i >= 0 && i < n {
				want = l[i]
			}
			if k, is := x.Key(i); k != want || is != (want != "") {
				t.Errorf("of %d things Key(%d) is %q, %t", n, i, k, is)
			}
		}
	}
}

// Keys are new each time: whoever writes over them, and over the room behind them, changes nothing of the table, nor does a later Put change them.
func TestP1502KeysAreNew(t *testing.T) {
	for n := range 40 {
		l := some(n)
		x := with(t, l...)
		one, other := x.Keys(), x.Keys()
		for i := range one[:cap(one)] {
			one[:cap(one)][i] = "written over"
		}
		_ = append(one[:n/2], "put", "behind")
		hold(t, fmt.Sprintf("%d things, and Keys written over", n), x, l, "written over", "put", "behind")
		for i := n; i < n+40; i++ {
			keys := x.Keys()
			putNew(t, x, fmt.Sprint("more ", i))
			_ = append(keys, "behind")
			for at := range keys[:cap(keys)] {
				keys[:cap(keys)][at] = "later"
			}
			l = append(l, fmt.Sprint("more ", i))
		}
		hold(t, fmt.Sprintf("%d things, and some more", n), x, l, "behind", "later")
		x.Back(n / 2)
		putNew(t, x, "anew", "and anew")
		hold(t, fmt.Sprintf("%d things, and others", n), x, append(slices.Clone(l[:n/2]), "anew", "and anew"))
		if !slices.Equal(other, some(n)) {
			t.Errorf("Keys, told ahead of all that, are %s now", brief(other))
		}
	}
}

// What stays keeps its number; what goes is there no more.
func TestP1502Back(t *testing.T) {
	for _, n := range []int{0, 1, 2, 3, 8, 9, 100} {
		l := some(n)
		for _, c := range []struct{ to, left int }{
			{0, 0}, {1, 1}, {2, 2}, {n / 2, n / 2}, {n - 1, n - 1}, {n, n}, {n + 1, n}, {2*n + 1, n}, {1 << 32, n}, {math.MaxInt - 1, n}, {math.MaxInt, n},
			{-1, 0}, {-2, 0}, {-n, 0}, {-n - 1, 0}, {-1 << 32, 0}, {math.MinInt + 1, 0}, {math.MinInt, 0},
		} {
			left := min(max(c.left, 0), n)
			name := fmt.Sprintf("%d things, behind Back(%d)", n, c.to)
			x := with(t, l...)
			x.Back(c.to)
			hold(t, name, x, l[:left], l[left:]...)
			x.Back(c.to)
			hold(t, name+" twice", x, l[:left], l[left:]...)
			anew := slices.Clone(l)
			slices.Reverse(anew[left:])
			putNew(t, x, anew[left:]...)
			hold(t, name+", put anew", x, anew, "other")
			for i, k := range l[:left] {
				putAgain(t, x, k, i)
			}
			x.Back(c.to)
			putNew(t, x, "other")
			hold(t, name+" and another one", x, append(slices.Clone(l[:left]), "other"), l[left:]...)
		}
	}
}

// Puts and Backs by turns, down to nothing and up again.
func TestP1502BackByTurns(t *testing.T) {
	x := New[int]()
	var l []int
	for turn := range 300 {
		for i := range turn%17 + 3 {
			k := 1000*turn + i
			putNew(t, x, k)
			l = append(l, k)
		}
		left := len(l) * (turn % 5) / 5
		if turn%5 == 4 {
			left = len(l) - 1
		}
		gone := slices.Clone(l[left:])
		x.Back(left)
		l = l[:left]
		hold(t, fmt.Sprintf("the turn %d", turn), x, l, gone...)
		if turn%3 == 0 && len(gone) > 1 {
			putNew(t, x, gone[len(gone)-1], gone[0])
			l = append(l, gone[len(gone)-1], gone[0])
		}
	}
	if len(l) < 3 {
		t.Errorf("%d things are left", len(l))
	}
	for len(l) > 0 {
		x.Back(len(l) - 1)
		hold(t, "one less", x, l[:len(l)-1], l[len(l)-1])
		l = l[:len(l)-1]
	}
}

// Many things.
func TestP1502Many(t *testing.T) {
	t.Parallel()
	const n = 300000
	x, texts := New[int](), New[string]()
	thing := func(i int) int { return i*7919%n - n/2 }
	for i := range n {
		putNew(t, x, thing(i))
		putNew(t, texts, fmt.Sprint(thing(i)))
	}
	for i := range n {
		putAgain(t, x, thing(i), i)
		if k, is := texts.Key(i); k != fmt.Sprint(thing(i)) || !is || texts.Find(k) != i {
			t.Fatalf("Key(%d) is %q, %t, and has the number %d", i, k, is, texts.Find(k))
		}
	}
	x.Back(n / 3)
	for i := range n {
		if want := i < n/3; (x.Find(thing(i)) == i) != want || (x.Find(thing(i)) == -1) == want {
			t.Fatalf("the thing %d has the number %d", i, x.Find(thing(i)))
		}
	}
	for i := n - 1; i >= n/3; i-- {
		putNew(t, x, thing(i))
	}
	if l := x.Keys(); len(l) != n || l[n-1] != thing(n/3) || l[n/3] != thing(n-1) || l[n/3-1] != thing(n/3-1) {
		t.Errorf("%d things are there in another order", len(l))
	}
}

// Two tables have nothing of each other, of one type and of two.
func TestP1502New(t *testing.T) {
	x, y, other := New[string](), New[string](), New[int]()
	if x == y {
		t.Fatal("New tells one table twice")
	}
	putNew(t, x, "a", "b", "c")
	hold(t, "the other table", y, nil, "a", "b", "c")
	hold(t, "a later table", New[string](), nil, "a", "b", "c", "")
	putNew(t, y, "c", "d", "a")
	putNew(t, other, 0, 1)
	hold(t, "one", x, []string{"a", "b", "c"}, "d")
	hold(t, "other", y, []string{"c", "d", "a"}, "b")
	x.Back(1)
	hold(t, "one that went back", x, []string{"a"}, "b", "c", "d")
	hold(t, "one that did not", y, []string{"c", "d", "a"}, "b")
	y.Back(-1)
	putNew(t, x, "d")
	hold(t, "one that went on", x, []string{"a", "d"}, "b", "c")
	hold(t, "one that is empty", y, nil, "a", "b", "c", "d")
	hold(t, "numbers", other, []int{0, 1}, 2)
}

// pointed: pointers to things of their own, in a table, and weak ones to the same things.
func pointed(t *testing.T, n int) (*Table[*part], []weak.Pointer[part]) {
	x := New[*part]()
	var l []weak.Pointer[part]
	for i := range n {
		k := &part{name: "pointed", at: i}
		putNew(t, x, k)
		l = append(l, weak.Make(k))
	}
	return x, l
}

// Nothing is held on to that went, nor is what a thing points to changed.
func TestP1502GoneIsNotKept(t *testing.T) {
	const n, left = 100, 30
	x, l := pointed(t, n)
	x.Back(left)
	runtime.GC()
	for i, k := range l {
		if kept := k.Value(); (kept != nil) != (i < left) {
			t.Errorf("that the thing %d of %d is kept is %t, behind Back(%d)", i, n, kept != nil, left)
		}
	}
	for i, k := range x.Keys() {
		if *k != (part{name: "pointed", at: i}) {
			t.Errorf("the thing %d is %v now", i, *k)
		}
	}
}

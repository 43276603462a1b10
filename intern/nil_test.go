package intern

import (
	"fmt"
	"slices"
	"testing"
)

// holdNil: a nil table of some type has nothing, whatever it is handed.
func holdNil[K comparable](t *testing.T, l ...K) {
	t.Helper()
	var x *Table[K]
	name := fmt.Sprintf("a nil table of %T", l)
	hold(t, name, x, nil, l...)
	for range 2 {
		for _, k := range l {
			if i, is := x.Put(k); i != -1 || is {
				t.Errorf("%s: Put(%s) is %d, %t", name, brief(k), i, is)
			}
		}
		for _, n := range past(len(l)) {
			x.Back(n)
		}
		for n := range 5 {
			x.Back(n)
		}
		hold(t, name+", behind all that", x, nil, l...)
	}
	if x != nil {
		t.Errorf("%s is nil no more", name)
	}
	hold(t, name+": one that is not nil", New[K](), nil, l...)
}

func TestP1501Nil(t *testing.T) {
	holdNil(t, "", "a", "\xff")
	holdNil(t, some(100)...)
	holdNil(t, append(ends(), 0, 1)...)
	holdNil[uint8](t, 0, 1, 255)
	holdNil(t, false, true)
	holdNil(t, [2]string{}, [2]string{"a", "b"})
	holdNil(t, part{}, part{"a", 1, true})
	holdNil(t, nil, &part{}, &part{"a", 1, true})
	holdNil(t, 0.0, 1, -1)
	holdNil[any](t, nil, 1, "a", part{}, []int{1}, func() {})
	holdNil[error](t, nil)
}

// Whatever number is handed in, and whatever was called ahead, each call ends, and none of them panics; what is asked changes nothing.
func TestP1501WhateverNumber(t *testing.T) {
	for _, n := range []int{0, 1, 2, 10} {
		l := some(n)
		x := with(t, l...)
		for _, i := range slices.Concat(past(n), ends()) {
			if k, is := x.Key(i); k != "" || is {
				t.Errorf("of %d things Key(%d) is %q, %t", n, i, k, is)
			}
			x.Back(max(i, n))
			hold(t, fmt.Sprintf("%d things, asked for %d", n, i), x, l, "")
		}
		for _, i := range slices.Concat(past(n), ends()) {
			x.Back(i)
			left := n
			if i < 0 {
				left = 0
			}
			hold(t, fmt.Sprintf("%d things, behind Back(%d)", n, i), x, l[:left], l[left:]...)
			putNew(t, x, l[left:]...)
		}
	}
}

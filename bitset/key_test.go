package bitset

import (
	"fmt"
	"slices"
	"testing"

	"doublet/sample"
)

// A book of keys: of which numbers each one was told, and the other way round.
type book struct {
	numbers, keys map[string]string
}

func newBook() book {
	return book{numbers: map[string]string{}, keys: map[string]string{}}
}

// hold: the key of a set is that of each set with its numbers that was met ahead, and of no other one.
func (k book) hold(t *testing.T, b *Bits, l []int) {
	t.Helper()
	numbers, key := fmt.Sprint(l), b.Key()
	if other, met := k.keys[numbers]; met && other != key {
		t.Errorf("%s have the keys %.60q and %.60q", brief(l), key, other)
	}
	if other, met := k.numbers[key]; met && other != numbers {
		t.Errorf("%.300s and %.300s have one key, %.60q", numbers, other, key)
	}
	k.numbers[key], k.keys[numbers] = numbers, key
}

// orders goes through the ways to put things one behind the other.
func orders(l []int, told func(l []int)) {
	var put func(n int)
	put = func(n int) {
		if n == len(l) {
			told(l)
		}
		for i := n; i < len(l); i++ {
			l[n], l[i] = l[i], l[n]
			put(n + 1)
			l[n], l[i] = l[i], l[n]
		}
	}
	put(0)
}

// However numbers came to be in a set, and whatever room it has, they have one key.
func TestP1403OneKey(t *testing.T) {
	l := []int{0, 63, 64, 127, 200}
	key := with(t, 201, l...).Key()
	orders(slices.Clone(l), func(order []int) {
		for _, n := range []int{201, 256, 257, 1000} {
			b := with(t, n, order...)
			if b.Key() != key || b.Copy().Key() != key {
				t.Errorf("%v in room for %d have another key than %v", order, n, l)
			}
			for _, other := range []int{1, 62, 65, 128, 192, 199} {
				b.Put(other)
				if b.Key() == key {
					t.Errorf("%v and %d have the key of %v", order, other, l)
				}
				b.Take(other)
			}
			b.Put(n - 1)
			if n > 201 {
				b.Take(n - 1)
			}
			if b.Key() != key || b.Key() != key {
				t.Errorf("%v in room for %d, with others put and taken again, have another key than %v", order, n, l)
			}
			for _, i := range order {
				b.Take(i)
			}
			if b.Key() != empty(t, 0).Key() {
				t.Errorf("%v, each put and taken again, have another key than none", order)
			}
		}
	})
	b := with(t, Most, l...)
	b.Or(with(t, Most, l[1:]...))
	if c := empty(t, 201); !c.Or(b) || b.Key() != key || c.Key() != key {
		t.Errorf("%v, put by Or, have another key", l)
	}
}

func TestP1403EmptyKey(t *testing.T) {
	key := empty(t, 0).Key()
	for _, n := range rooms() {
		b := empty(t, n)
		if b.Key() != key || b.Copy().Key() != key {
			t.Errorf("the empty set with room for %d has another key", n)
		}
		for _, i := range fitting(n) {
			b.Put(i)
			if b.Key() == key {
				t.Errorf("%d alone has the key of the empty set", i)
			}
			b.Take(i)
		}
		if b.Key() != key {
			t.Errorf("the set with room for %d has another key, once all is taken", n)
		}
	}
}

// Two keys: where one number more is in one of the sets, where one is a part of the other, and where one is the other moved.
func TestP1403OtherKeys(t *testing.T) {
	for _, l := range [][]int{nil, {5}, {5, 70}, {5, 70, 140}, upTo(1, 63), upTo(65, 199), {3, 67, 131, 195}} {
		b := with(t, 200, l...)
		key := b.Key()
		for _, i := range []int{0, 63, 64, 199} {
			c := b.Copy()
			if !c.Put(i) {
				t.Fatalf("%d is among %v", i, l)
			}
			if c.Key() == key {
				t.Errorf("%v, and these and %d, have one key", l, i)
			}
		}
		for n := range l {
			if with(t, 200, l[:n]...).Key() == key || with(t, 200, l[n+1:]...).Key() == key {
				t.Errorf("%v have the key of a part of them", l)
			}
		}
		for _, by := range []int{1, 7, 8, 16, 32, 63, 64, 65, 128, 1 << 14, 1 << 16, Most - 200} {
			moved := slices.Clone(l)
			for i := range moved {
				moved[i] += by
			}
			if with(t, Most, moved...).Key() == key && len(l) > 0 {
				t.Errorf("%v have the key they have when moved by %d", l, by)
			}
		}
	}
}

// One number alone, and all numbers below it.
func TestP1403KeysOfOneNumber(t *testing.T) {
	k := newBook()
	b, c := empty(t, 2000), empty(t, 2000)
	for i := range 2000 {
		b.Put(i)
		k.hold(t, b, []int{i})
		b.Take(i)
		c.Put(i)
		if i > 0 {
			k.hold(t, c, upTo(0, i+1))
		}
	}
	// In much room one number of each word, for they are the places that a key may tell short.
	great := empty(t, Most)
	for at := range Most / 64 {
		i := 64*at + at%64
		great.Put(i)
		k.hold(t, great, []int{i})
		great.Take(i)
	}
}

// All sets of a few numbers, in each room that there is for them.
func TestP1403AllSets(t *testing.T) {
	k := newBook()
	for _, few := range [][]int{{0, 1, 2, 3, 4, 5, 6, 7, 8, 9}, {0, 1, 62, 63, 64, 65, 126, 127, 128, 129}, {0, 64, 128, 192, 256, 320, 384, 448, 512, 576}, {7, 8, 15, 16, 71, 72, 79, 80, 135, 143}} {
		for _, n := range []int{577, 640, 641, 2000} {
			for some := range 1 << len(few) {
				var l []int
				for i := range few {
					if some>>i&1 == 1 {
						l = append(l, few[i])
					}
				}
				k.hold(t, with(t, n, l...), l)
			}
		}
	}
}

func TestP1403RandomSets(t *testing.T) {
	k := newBook()
	next := sample.Chances()
	for range 3000 {
		n := 1 + next(1+next(700))
		b := empty(t, n)
		for range next(1 + next(n)) {
			b.Put(next(n))
		}
		l := b.All()
		k.hold(t, b, l)
		c := b.Copy()
		i := next(n)
		if c.Put(i) || c.Take(i) {
			k.hold(t, c, c.All())
		}
		more := empty(t, n+next(300))
		more.Or(b)
		k.hold(t, more, l)
		// The same numbers, moved by a word of bits.
		moved := empty(t, n+64)
		for _, i := range l {
			moved.Put(i + 64)
		}
		k.hold(t, moved, moved.All())
		if t.Failed() {
			return
		}
	}
}

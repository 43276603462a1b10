package intern

import (
	"errors"
	"fmt"
	"math"
	"slices"
	"strings"
	"testing"
)

// apart: things that Go's == tells apart, each from each, have numbers of their own, in whatever order they are put; a table has no other than those that were put.
func apart[K comparable](t *testing.T, l ...K) {
	t.Helper()
	name := fmt.Sprintf("%T", l)
	for from := range l {
		order := slices.Concat(l[from:], l[:from])
		x := New[K]()
		hold(t, name, x, nil, l...)
		for n, k := range order {
			putNew(t, x, k)
			putAgain(t, x, k, n)
			if from < 20 && n < 20 {
				hold(t, name, x, order[:n+1], order[n+1:]...)
			}
		}
		for i := range 2 * len(order) {
			n := len(order) - 1 - i%len(order)
			putAgain(t, x, order[n], n)
		}
		hold(t, name, x, order)
	}
}

// alike: things that Go's == holds for the same have one number, that of the first one, which is the thing that a table has.
func alike[K comparable](t *testing.T, l ...K) {
	t.Helper()
	x := with(t, l[0])
	for _, k := range l {
		putAgain(t, x, k, 0)
		if got := x.Find(k); got != 0 {
			t.Errorf("Find(%s) is %d, though %s is there", brief(k), got, brief(l[0]))
		}
	}
	hold(t, fmt.Sprintf("%T", l), x, l[:1])
	x.Back(0)
	hold(t, fmt.Sprintf("none of %T", l), x, nil, l...)
}

func TestP1502Texts(t *testing.T) {
	long := strings.Repeat("0123456789abcdef", 4096)
	l := []string{
		"", "a", "b", "A", "aa", "ab", "ba", "a ", " a", " ", "\x00", "\x00\x00", "a\x00", "\x00a", "a\x00b",
		"\xff", "\xfe", "\xff\xff", "\x80", "\xc3", "\xc3\xa9", "e\u0301", "\ufffd", "a\xffb", "a\xfeb",
		"aaaaaaab", "baaaaaaa", "aaaabaaa", "aaaaaaaaaaaaaaab", "aaaaaaaaaaaaaaac",
		long, long + "a", "a" + long, long[1:], long[:len(long)-1],
	}
	for _, at := range []int{0, 1, 31, 32, 4095, 32768, len(long) - 1} {
		l = append(l, long[:at]+"x"+long[at+1:])
	}
	apart(t, l...)
	bytes := make([]string, 256)
	for i := range bytes {
		bytes[i] = string([]byte{byte(i)})
	}
	apart(t, bytes...)
	alike(t, "text", string([]byte("text")), strings.Clone("text"), "a text more"[2:6])
	alike(t, "", strings.Clone(""), string([]byte{}), "a"[:0], "a"[1:])
	alike(t, long, strings.Clone(long), long[:70]+long[70:])
}

func TestP1502Numbers(t *testing.T) {
	apart(t, 0, 1, -1, 2, 63, 64, 1<<31, 1<<32, 1<<32+1, -1<<32, math.MinInt, math.MinInt+1, math.MaxInt-1, math.MaxInt)
	apart[int8](t, 0, 1, -1, 127, -128, 126, -127)
	apart[int16](t, 0, 1, -1, 255, 256, math.MaxInt16, math.MinInt16)
	apart[int32](t, 0, 1, -1, 65536, math.MaxInt32, math.MinInt32)
	apart[int64](t, 0, 1, -1, 1<<32, math.MaxInt64, math.MinInt64)
	apart[uint](t, 0, 1, 2, 1<<63, math.MaxUint, math.MaxUint-1)
	apart[uint16](t, 0, 1, 255, 256, math.MaxUint16)
	apart[uint32](t, 0, 1, 65536, math.MaxUint32)
	apart[uint64](t, 0, 1, 1<<32, 1<<63, math.MaxUint64)
	apart[rune](t, 0, 'a', '\ufffd', math.MaxInt32, -1)
	var all []uint8
	for i := range 256 {
		all = append(all, uint8(i))
	}
	apart(t, all...)
	apart(t, 0.0, 1, -1, 0.5, math.SmallestNonzeroFloat64, math.MaxFloat64, -math.MaxFloat64, math.Inf(1), math.Inf(-1))
	apart(t, complex(0, 0), complex(0, 1), complex(1, 0), complex(1, 1), complex(0, -1))
	alike(t, 0.0, math.Copysign(0, -1))
	alike(t, complex(0, 0), complex(math.Copysign(0, -1), 0), complex(0, math.Copysign(0, -1)))
}

func TestP1502Bools(t *testing.T) {
	apart(t, false, true)
	apart(t, true)
	apart(t, false)
}

func TestP1502Arrays(t *testing.T) {
	apart(t, [3]int{}, [3]int{1}, [3]int{0, 1}, [3]int{0, 0, 1}, [3]int{1, 1}, [3]int{1, 2, 3}, [3]int{3, 2, 1}, [3]int{math.MinInt, math.MaxInt, -1})
	apart(t, [2]string{}, [2]string{"a"}, [2]string{"", "a"}, [2]string{"ab"}, [2]string{"a", "b"}, [2]string{"b", "a"})
	apart(t, [0]int{})
	apart(t, [2][2]bool{}, [2][2]bool{{true}}, [2][2]bool{{}, {true}}, [2][2]bool{{false, true}}, [2][2]bool{{}, {false, true}})
	var wide [256]uint8
	l := [][256]uint8{wide}
	for i := range wide {
		wide[i]++
		l = append(l, wide)
	}
	apart(t, l...)
	k := [3]int{1, 2, 3}
	other := k
	alike(t, k, other, [...]int{1, 2, 3})
}

// Things of several kinds at once.
type part struct {
	name string
	at   int
	is   bool
}

type nested struct {
	part
	next *part
	l    [2]int8
}

func TestP1502Structs(t *testing.T) {
	apart(t, part{}, part{name: "a"}, part{at: 1}, part{is: true}, part{"a", 1, true}, part{"a", 1, false}, part{"a", -1, true}, part{"b", 1, true})
	one, same := &part{}, &part{}
	apart(t, nested{}, nested{part: part{at: 1}}, nested{next: one}, nested{next: same}, nested{l: [2]int8{1}}, nested{l: [2]int8{0, 1}})
	apart(t, struct{}{})
	apart(t, struct{ a, b int }{1, 2}, struct{ a, b int }{2, 1}, struct{ a, b int }{})
	alike(t, part{"ab", 1, true}, part{strings.Clone("ab"), 1, true})
	alike(t, nested{next: one}, nested{part: part{}, next: one})
}

// A pointer is another one's like if it leads to the same place, whatever lies there.
func TestP1502Pointers(t *testing.T) {
	var row [3]int
	apart(t, nil, &row[0], &row[1], &row[2], new(int), new(int))
	one, other := &part{"a", 1, true}, &part{"a", 1, true}
	apart(t, one, other, nil)
	alike(t, one, one)
	x := with(t, one, other)
	one.at, other.name = 77, "changed"
	hold(t, "pointers whose parts are changed", x, []*part{one, other}, nil, &part{"a", 77, true})
	c, d := make(chan int), make(chan int)
	apart(t, c, d, nil)
}

// What two values of an interface hold is told apart by its type, too.
func TestP1502Interfaces(t *testing.T) {
	one := &part{}
	apart[any](t, nil, 0, int8(0), int64(0), uint(0), 0.0, "", "0", false, [0]int{}, [1]int{}, struct{}{}, part{}, one, &part{}, (*part)(nil), (*int)(nil), 'a', byte('a'), "a")
	alike[any](t, part{"ab", 1, true}, part{strings.Clone("ab"), 1, true})
	alike[any](t, 0.0, math.Copysign(0, -1))
	apart(t, nil, errors.New("one"), errors.New("one"), errors.New("other"))
	apart(t, [2]any{}, [2]any{1, nil}, [2]any{nil, 1}, [2]any{int8(1), nil}, [2]any{part{}, "a"})
}

// A float that is no number is not even the same as itself: each one is new, and none is found.
func TestP1502NoNumber(t *testing.T) {
	nan := math.NaN()
	x := with(t, 1.0, nan, 2, nan, nan)
	if got := x.Find(nan); got != -1 || x.Len() != 5 || x.Find(2) != 2 {
		t.Errorf("of a float that is no number Find is %d; Len is %d, and 2 has the number %d", got, x.Len(), x.Find(2))
	}
	for i, want := range []bool{false, true, false, true, true} {
		if k, is := x.Key(i); (k != k) != want || !is {
			t.Errorf("Key(%d) is %v, %t", i, k, is)
		}
	}
	x.Back(2)
	if l := x.Keys(); len(l) != 2 || l[0] != 1 || l[1] == l[1] {
		t.Errorf("behind Back(2) Keys are %v", l)
	}
	putNew(t, x, nan, 2)
	x.Back(1)
	hold(t, "with no float that is no number", x, []float64{1}, nan, 2)
	for range 1000 {
		putNew(t, x, nan, 3)
		x.Back(1)
	}
	if n := len(x.numbers); n != 1 {
		t.Errorf("%d things are kept of one", n)
	}
	y := with[any](t, nan, part{}, nan)
	y.Back(0)
	hold[any](t, "with nothing", y, nil, nan, part{})
	if n := len(y.numbers); n != 0 {
		t.Errorf("%d things are kept of none", n)
	}
}

// What Go holds against nothing has no number; to ask for it panics not, and changes nothing.
func TestP1501NothingPanics(t *testing.T) {
	type pair struct {
		at    float64
		value any
	}
	never := []any{
		[]int{1}, []int(nil), map[int]int{}, func() {}, []any{nil}, [1][]int{}, [2]any{1, []int{}},
		struct{ l []int }{}, struct{ value any }{map[int]int{}}, pair{1, []int{}}, pair{math.NaN(), []int{}}, pair{0, pair{0, func() {}}},
	}
	for _, l := range [][]any{nil, {nil}, {1, "a", part{}}, {1, 2, 3, 4, 5, 6, 7, 8, 9, 10, 11, 12, 13, 14, 15, 16, 17}} {
		x := with(t, l...)
		for _, k := range never {
			if i, is := x.Put(k); i != -1 || is || x.Find(k) != -1 || x.Len() != len(l) {
				t.Errorf("in a table of %d Put of a %T is %d, %t, Find %d; Len is %d then", len(l), k, i, is, x.Find(k), x.Len())
			}
		}
		hold(t, "a table of which all was asked", x, l)
		putNew[any](t, x, "new", pair{0, "new"})
		hold(t, "a table that goes on", x, append(l, "new", pair{0, "new"}))
		x.Back(len(l))
		hold[any](t, "a table that went back", x, l, "new")
	}
	y := with(t, [2]any{1, 2})
	if i, is := y.Put([2]any{1, []int{2}}); i != -1 || is || y.Find([2]any{[]int{}, 2}) != -1 {
		t.Errorf("Put of an array with a list is %d, %t", i, is)
	}
	hold(t, "arrays", y, [][2]any{{1, 2}})
}

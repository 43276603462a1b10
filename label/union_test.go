package label

import (
	"slices"
	"strconv"
	"strings"
	"testing"

	"doublet/sample"
)

func TestP2202UnionWrittenOut(t *testing.T) {
	for _, r := range []struct {
		want  []string
		lists [][]string
	}{
		{nil, nil},
		{nil, [][]string{nil}},
		{nil, [][]string{{}, nil, {}}},
		{split("a"), [][]string{{"a"}}},
		{split("a b c"), [][]string{{"a", "b", "c"}}},
		{split("a b c"), [][]string{{"c", "b", "a"}}},
		{split("a b c"), [][]string{{"b", "c", "a"}}},
		// A text twice: in one list, in two, in all.
		{split("a b"), [][]string{{"b", "a", "b"}}},
		{split("a b"), [][]string{{"a", "a", "b", "b", "a"}}},
		{split("a b c"), [][]string{{"a", "b"}, {"b", "c"}}},
		{split("a b c"), [][]string{{"c", "b"}, {"b", "a"}}},
		{split("a b c d"), [][]string{{"d"}, {"a", "b"}, {"d", "c"}, {"a"}}},
		{split("a b"), [][]string{{"a", "b"}, {"a", "b"}, {"b", "a"}}},
		{split("a"), [][]string{{"a"}, {"a"}, {"a", "a"}}},
		// What is in one list alone: the first one, one between, the last one.
		{split("a b"), [][]string{{"a", "b"}, {"b"}, {"b"}}},
		{split("a b"), [][]string{{"b"}, {"a", "b"}, {"b"}}},
		{split("a b"), [][]string{{"b"}, {"b"}, {"a", "b"}}},
		{split("a b"), [][]string{nil, {"b"}, {}, {"a"}, nil}},
		// The empty text, and such as are no names.
		{[]string{""}, [][]string{{""}}},
		{[]string{"", "a"}, [][]string{{"a"}, {"", ""}}},
		{[]string{"", "\x00", "\x00\x00", "\x00a", "\n", " ", " a", "#", "9", "9a", "A", "[", "_", "`", "a", "a ", "a b", "a:b", "aa", "{", "\x7f", "\x80", "\xc3", "é", "\xfe", "\xff", "\xff\x00", "\xff\xff"},
			[][]string{{"\xff\xff", "é", "a b", "", "\x80", "\x7f"}, {"\xff\x00", "\xff", "\xfe", "\xc3", "{", "aa", "a:b", "a ", "a", "`"}, {"_", "[", "A", "9a", "9", "#", " a", " ", "\n", "\x00a", "\x00\x00", "\x00", ""}}},
	} {
		holdUnion(t, r.want, r.lists...)
		holdUnion(t, r.want, sample.Turned(r.lists)...)
		holdUnion(t, r.want, append(sample.Turned(r.lists), r.lists...)...)
		holdUnion(t, r.want, append(r.lists, Union(r.lists...))...)
		var all []string
		for _, l := range r.lists {
			all = append(all, sample.Turned(l)...)
		}
		holdUnion(t, r.want, all)
	}
	if got := Union(); len(got) != 0 {
		t.Errorf("Union of no list is %q", got)
	}
}

// All texts of one byte, and of two, are in the order of their bytes.
func TestP2202UnionBytes(t *testing.T) {
	t.Parallel()
	next := sample.Chances()
	var one, both []string
	for b := range 256 {
		own := string([]byte{byte(b)})
		one, both = append(one, own), append(both, own)
		for _, c := range []byte("\x00Za\x7f\x80\xff") {
			both = append(both, own+string([]byte{c}))
		}
	}
	for range 30 {
		holdUnion(t, one, sample.Shuffled(one, next))
		mixed := sample.Shuffled(both, next)
		holdUnion(t, both, mixed[:100], mixed[50:900], nil, mixed[900:], mixed[:1])
	}
}

// Names in rising order are so in whatever lists they come.
func TestP2202UnionOrders(t *testing.T) {
	t.Parallel()
	next := sample.Chances()
	all := split(rising)
	for range 2000 {
		lists := make([][]string, 1+next(6))
		for _, name := range sample.Shuffled(all, next) {
			for range 1 + next(2) {
				at := next(len(lists))
				lists[at] = append(lists[at], name)
			}
		}
		holdUnion(t, all, lists...)
		if t.Failed() {
			return
		}
	}
}

// More texts than a machine may have names; more lists; and very long texts.
func TestP2202UnionMany(t *testing.T) {
	t.Parallel()
	next := sample.Chances()
	for _, many := range []int{63, 64, 65, 66, 1000, 200000} {
		var want []string
		for i := range many {
			want = append(want, strconv.Itoa(1000000+i))
		}
		mixed := sample.Shuffled(want, next)
		holdUnion(t, want, mixed)
		holdUnion(t, want, mixed, want, sample.Turned(want))
		holdUnion(t, want, slices.Collect(slices.Chunk(mixed, 1))...)
		holdUnion(t, want, append(slices.Collect(slices.Chunk(mixed, 7)), slices.Collect(slices.Chunk(want, 3))...)...)
	}
	// As many lists, of which most are the same, or empty.
	holdUnion(t, split("a b c"), append(slices.Repeat([][]string{{"c", "b"}, nil, {}}, 100000), []string{"a"})...)
	holdUnion(t, nil, make([][]string, 1000000)...)
	holdUnion(t, split("a"), slices.Repeat([]string{"a"}, 1000000))
	front := strings.Repeat("a", 1<<20)
	want := []string{front, front + "\x00", front + "a", front + "b"}
	holdUnion(t, want, sample.Turned(want), want[1:], want[:2])
}

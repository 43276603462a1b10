package dfa

import (
	"bytes"
	"slices"
	"testing"

	"doublet/api"
	"doublet/sample"
)

// ab: a machine of (ab)*, in which the word that is told has the label 1, and of which one state is never come to.
func ab() api.Dfa {
	return made("ab", []int{0, 1, 0, 0, 1}, []int{3, 2, 3}, []int{1, 1, 0}, []int{3, 3, 4}, []int{3, 3, 3}, []int{3, 2, 3})
}

// told: a word, where a machine is behind it, and what is told of it.
type told struct {
	word         string
	state, label int
	name         string
}

// holdTold: behind a word it is there, and just that is told.
func holdTold(t *testing.T, d api.Dfa, want told) {
	t.Helper()
	w := []byte(want.word)
	got := told{want.word, Run(d, w), Tell(d, w), Name(d, w)}
	if got != want {
		t.Errorf("of %q is told %d, %d, %q, want %d, %d, %q, of %s", front(want.word), got.state, got.label, got.name, want.state, want.label, want.name, brief(d))
	}
}

// For each state and byte the state behind; for what is no state none.
func TestP2002To(t *testing.T) {
	d := ab()
	want := [][3]int{{3, 2, 3}, {1, 1, 0}, {3, 3, 4}, {3, 3, 3}, {3, 2, 3}}
	for s, row := range want {
		for b := range 256 {
			to := row[0]
			switch b {
			case 'a':
				to = row[1]
			case 'b':
				to = row[2]
			}
			if got := To(d, s, byte(b)); got != to {
				t.Errorf("To(%d, %d) is %d, want %d", s, b, got, to)
			}
		}
	}
	for _, d := range []api.Dfa{d, quiet(1, 1), quiet(2, 256), leading(70, 3, 4), leading(256, 2, 0), leading(1000, 16, 64)} {
		states := len(d.Label)
		for _, s := range append(outsides(states), -states+1, -256, 1<<16, 1<<32+1, least+1, greatest-1, greatest/2+1) {
			for b := range 256 {
				if got := To(d, s, byte(b)); got != -1 && (s < 0 || s >= states) {
					t.Fatalf("To(%d, %d) is %d of %s", s, b, got, brief(d))
				}
			}
		}
	}
}

// To of a machine that is at a state for each byte, and of one with a class for each byte that goes on by what it is.
func TestP2002ToEveryByte(t *testing.T) {
	t.Parallel()
	d := quiet(256, 256)
	sum := quiet(256, 256)
	for s := range 256 {
		for b := range 256 {
			d.Next[s][b], sum.Next[s][b] = b, (s+b)%256
		}
	}
	var all []byte
	for b := range 256 {
		all = append(all, byte(b))
		for _, s := range []int{0, 1, b, 127, 128, 255 - b, 255} {
			if got := To(d, s, byte(b)); got != b {
				t.Errorf("To(%d, %d) is %d", s, b, got)
			}
			if got := To(sum, s, byte(b)); got != (s+b)%256 {
				t.Errorf("To(%d, %d) is %d, want %d", s, b, got, (s+b)%256)
			}
		}
		holdTold(t, d, told{word: string(all), state: b})
		holdTold(t, sum, told{word: string(all), state: b * (b + 1) / 2 % 256})
	}
	slices.Reverse(all)
	holdTold(t, d, told{word: string(all), state: 0})
	holdTold(t, sum, told{word: string(all), state: 255 * 128 % 256})
}

func TestP2002RunWrittenOut(t *testing.T) {
	for _, want := range []told{
		{"", 0, 0, ""}, {"a", 2, 0, ""}, {"b", 3, 0, ""}, {"x", 3, 0, ""}, {"\x00", 3, 0, ""}, {"\xff", 3, 0, ""}, {"`", 3, 0, ""}, {"c", 3, 0, ""},
		{"ab", 4, 1, "x"}, {"aa", 3, 0, ""}, {"ba", 3, 0, ""}, {"aba", 2, 0, ""}, {"abab", 4, 1, "x"}, {"abb", 3, 0, ""}, {"ababx", 3, 0, ""}, {"abaab", 3, 0, ""}, {"xab", 3, 0, ""},
	} {
		holdTold(t, ab(), want)
	}
	// It begins at 0, wherever labels are; the label there is told of the empty word.
	d := ab()
	d.Label = []int{2, 1, 0, 0, 0}
	d.Names = []string{"one", "two", "three"}
	holdTold(t, d, told{"", 0, 2, "two"})
	holdTold(t, d, told{"ab", 4, 0, ""})
	d.Label = []int{3, 1, 2, 1, 3}
	for _, want := range []told{{"", 0, 3, "three"}, {"a", 2, 2, "two"}, {"ab", 4, 3, "three"}, {"x", 3, 1, "one"}, {"abx", 3, 1, "one"}} {
		holdTold(t, d, want)
	}
	// One state, one class.
	holdTold(t, quiet(1, 1), told{})
	holdTold(t, quiet(1, 1), told{word: "any"})
	holdTold(t, labels(quiet(1, 1), 0), told{"any", 0, 1, "x"})
}

// Labels from 0 to the last one, and their names: as many as there may be.
func TestP2002Labels(t *testing.T) {
	t.Parallel()
	for _, names := range []int{0, 1, 2, 3, 63, 64} {
		d := unary(append(upTo(1, names+1), 0)...)
		d.Names = called(names)
		d.Label = upTo(0, names+1)
		turned := copied(d)
		slices.Reverse(turned.Label)
		for n := range 3 * (names + 1) {
			w := string(bytes.Repeat([]byte{byte(n * 7)}, n))
			label := n % (names + 1)
			of := append([]string{""}, d.Names...)
			holdTold(t, d, told{w, label, label, of[label]})
			holdTold(t, turned, told{w, label, names - label, of[names-label]})
		}
	}
	// Names that no state has change nothing; two states may have one.
	d := unary(1, 2, 3, 0)
	d.Names, d.Label = []string{"a", "b", "c", "d", "e"}, []int{0, 2, 4, 2}
	for n, want := range []told{{"", 0, 0, ""}, {"x", 1, 2, "b"}, {"xx", 2, 4, "d"}, {"xxx", 3, 2, "b"}, {"xxxx", 0, 0, ""}} {
		if len(want.word) != n {
			t.Errorf("the word %d is %q", n, want.word)
		}
		holdTold(t, d, want)
	}
}

// Long words, with every byte: what comes first, and last, counts as what stands between.
func TestP2002LongWords(t *testing.T) {
	t.Parallel()
	const mod = 251
	d := quiet(mod, mod)
	for b := range 256 {
		d.Of[b] = uint8(b % mod)
	}
	for s := range mod {
		for class := range mod {
			d.Next[s][class] = (s + class) % mod
		}
	}
	d.Names = called(2)
	d.Label = make([]int, mod)
	d.Label[0], d.Label[mod-1] = 1, 2
	next := sample.Chances()
	for _, length := range []int{1, 255, 256, 257, 65535, 65536, 65537, 1 << 20, 1<<24 + 3} {
		w := make([]byte, length)
		sum := 0
		for i := range w {
			w[i] = byte(next(256))
			sum += int(w[i]) % mod
		}
		for _, at := range []int{0, length / 2, length - 1} {
			sum -= int(w[at]) % mod
			w[at] = byte(next(256))
			sum += int(w[at]) % mod
			want := sum % mod
			if got := Run(d, w); got != want {
				t.Errorf("Run of %d bytes is %d, want %d", length, got, want)
			}
			if got := Tell(d, w); got != d.Label[want] {
				t.Errorf("Tell of %d bytes is %d, want %d", length, got, d.Label[want])
			}
		}
	}
}

// holdNothing: a machine that may not be answers each call as it has to.
func holdNothing(t *testing.T, fault string, d api.Dfa) {
	t.Helper()
	states := max(len(d.Next), len(d.Label))
	places, bytes := []int{least, -1, 0, 1, states / 2, states - 1, states, greatest}, "\x00\x01a\x7f\x80\xff"
	lists := [][]int{nil, {}, {0}, {0, 1}, {1, 0}, {0, 0}, {-1}, {least, greatest}, upTo(0, states)}
	if states > 1000 {
		// To ask whether a great machine may be takes a while.
		places, bytes = places[2:3], bytes[2:3]
		lists = [][]int{nil, {0}}
	}
	for _, s := range places {
		for _, b := range []byte(bytes) {
			if got := To(d, s, b); got != -1 {
				t.Errorf("with the fault %s To(%d, %d) is %d, of %s", fault, s, b, got, brief(d))
			}
		}
	}
	for _, w := range []string{"", bytes} {
		if got := Run(d, []byte(w)); got != -1 {
			t.Errorf("with the fault %s Run(%q) is %d, of %s", fault, w, got, brief(d))
		}
		if got := Tell(d, []byte(w)); got != 0 {
			t.Errorf("with the fault %s Tell(%q) is %d, of %s", fault, w, got, brief(d))
		}
		if got := Name(d, []byte(w)); got != "" {
			t.Errorf("with the fault %s Name(%q) is %q, of %s", fault, w, got, brief(d))
		}
	}
	holdList(t, Reach(d), nil, "with the fault %s Reach, of %s,", fault, brief(d))
	holdList(t, Live(d), nil, "with the fault %s Live, of %s,", fault, brief(d))
	for _, l := range lists {
		got, wrong := Keep(d, l)
		holdError(t, got, wrong, api.ErrKind, "with the fault %s Keep of %s of %s", fault, many(l), brief(d))
	}
	got, wrong := Trim(d)
	holdError(t, got, wrong, api.ErrKind, "with the fault %s Trim of %s", fault, brief(d))
}

// Machines that may not be, for whatever fault: also where no word, and no state, comes to it.
func TestP2001MayNotBe(t *testing.T) {
	t.Parallel()
	sample.EachWrongDfa(func(fault string, d api.Dfa) { holdNothing(t, fault, d) })
	// Faults at a state that is never come to, and by a byte that is never asked.
	d := labels(quiet(9, 256), 0)
	holdNothing(t, "of a label that is not come to", withLabel(d, 8, 2))
	holdNothing(t, "of a state that is not come to", withNext(d, 8, 255, 9))
	holdNothing(t, "of a class that is not come to", withNext(d, 0, 77, -1))
	holdNothing(t, "of a row that is not come to", withRow(d, 8, nil))
	d.Names = append(d.Names, "")
	holdNothing(t, "of a name that no label has", d)
	d.Names = []string{"a", "b", "b"}
	holdNothing(t, "of names that no label has", d)
}

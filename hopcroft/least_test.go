package hopcroft

import (
	"maps"
	"slices"
	"testing"

	"doublet/api"
	"doublet/dfa"
	"doublet/label"
	"doublet/sample"
)

// nameAt: the name that a machine which may be tells at a state; "" of none.
func nameAt(d api.Dfa, s int) string {
	if d.Label[s] == 0 {
		return ""
	}
	return d.Names[d.Label[s]-1]
}

// holdLeast: what Small tells tells the same of words, and has no two states that are alike, nor one that no word leads to; so Small of it is the same. It tells that machine.
func holdLeast(t *testing.T, d api.Dfa, words []string) api.Dfa {
	t.Helper()
	x, wrong := Small(d)
	if wrong != api.OK || !dfa.Right(x) {
		t.Fatalf("Small tells %d, and %s, of %s", wrong, brief(x), brief(d))
	}
	for i, w := range words {
		was, is := sample.Behind(d, w), sample.Behind(x, w)
		if d.Label[was] != x.Label[is] || nameAt(d, was) != nameAt(x, is) {
			t.Errorf("of %q is told %d, want %d, by what Small tells of %s", front(w), x.Label[is], d.Label[was], brief(d))
		}
		if i%40 == 0 && dfa.Name(x, []byte(w)) != dfa.Name(d, []byte(w)) {
			t.Errorf("of %q is told %q, want %q, by what Small tells of %s", front(w), dfa.Name(x, []byte(w)), dfa.Name(d, []byte(w)), brief(d))
		}
	}
	holdAlone(t, x)
	if reach := dfa.Reach(x); !slices.Equal(reach, upTo(0, len(x.Label))) || len(x.Label) > len(dfa.Reach(d)) {
		t.Errorf("words lead to %s of %s, of which Small tells %s", many(reach), brief(d), brief(x))
	}
	if len(x.Label) < 60 {
		for s, row := range sample.Apart(x) {
			for other, bytes := range row {
				if s != other && bytes < 0 {
					t.Errorf("%d and %d are alike, in %s", s, other, brief(x))
				}
			}
		}
	}
	return x
}

func TestP2504WrittenOut(t *testing.T) {
	next := sample.Chances()
	words := append(sample.AllWords("\x00\x70\xff", 5), "", "iffy")
	for states, l := range map[int][]api.Dfa{
		1:  {quiet(1, 1), quiet(30, 4), ring("x", 1), ring("x", 1, 1, 1), leading(40, 3, 0), rows("x y", ints(0, 1, 2), ints(0), ints(1), ints(2))},
		2:  {row(2), ring("x", 1, 0, 1, 0), ring("x y", 1, 2), ring("x", 1, 0, 1, 0, 1, 0), rows("x", ints(0, 1, 0, 1), ints(1), ints(1), ints(3), ints(2))},
		3:  {row(3), ring("x", 1, 0, 0, 1, 0, 0), tree(1, 1, 1, 1), leading(3, 256, 2), rows("x", ints(0, 1, 0, 0), ints(1, 2), ints(1, 3), ints(3, 3), ints(2, 2))},
		4:  {row(4), tree(1, 2, 1, 2), tree(0, 0, 0, 1), tree(2, 0, 0, 0), ring("x y", 1, 1, 2, 2, 1, 1, 2, 2)},
		5:  {row(5), tree(1, 2, 2, 1), leading(5, 5, 4)},
		16: {shifted(4)},
		50: {row(50), leading(50, 2, 49)},
	} {
		for _, d := range l {
			if x := holdLeast(t, d, words); len(x.Label) != states {
				t.Errorf("Small has %d states, want %d, of %s", len(x.Label), states, brief(d))
			}
			for _, more := range ints(0, 1, 7, 100) {
				y, _ := sample.Unfolded(d, len(d.Label)+more, next)
				if x := holdLeast(t, y, words); len(x.Label) != states {
					t.Errorf("Small has %d states, want %d, of %s", len(x.Label), states, brief(y))
				}
			}
		}
	}
}

// All small machines, by what they tell of all words of up to six bytes, which tells any two apart that do not tell the same: of those that do Small has as many states as the one that has the fewest.
func TestP2504Small(t *testing.T) {
	t.Parallel()
	const length = 6
	words := sample.AllWords("\x00\xff", length)
	fewest, small := map[string]int{}, map[string]map[int]int{}
	machines := 0
	for _, size := range [][3]int{{1, 1, 2}, {1, 2, 2}, {2, 1, 2}, {2, 2, 2}, {3, 1, 2}, {3, 2, 1}, {4, 1, 1}} {
		sample.EachDfa(size[0], size[1], size[2], func(d api.Dfa) {
			if machines++; t.Failed() {
				return
			}
			says := ""
			for _, w := range words {
				says += string(rune('0' + d.Label[sample.Behind(d, w)]))
			}
			if size[1] == 1 {
				// Of one class all words that have one length are told the same.
				words := sample.AllWords("a", 10)
				for _, w := range words {
					says += string(rune('0' + d.Label[sample.Behind(d, w)]))
				}
			}
			states, ok := fewest[says]
			if !ok || size[0] < states {
				fewest[says] = size[0]
			}
			x := holdLeast(t, d, words)
			if small[says] == nil {
				small[says] = map[int]int{}
			}
			small[says][len(x.Label)]++
		})
	}
	met := map[int]int{}
	for says, sizes := range small {
		if len(sizes) != 1 || sizes[fewest[says]] == 0 {
			t.Errorf("Small has so often so many states: %v, and there is a machine with %d, of %q", sizes, fewest[says], says)
		}
		met[fewest[says]]++
	}
	if machines != 3+3+36+144+729+5832+4096 || min(100*met[1], 10*met[2], met[3], 30*met[4]) < 600 {
		t.Errorf("of %d machines so many have so many states: %v", machines, met)
	}
}

// withMore: a machine with so many states more, to which no word leads, and that lead anywhere.
func withMore(d api.Dfa, more int, next func(most int) int) api.Dfa {
	x := d
	states := len(d.Label) + more
	x.Next, x.Label = slices.Clone(d.Next), slices.Clone(d.Label)
	for range more {
		x.Next, x.Label = append(x.Next, by(d.Width, func(int) int { return next(states) })), append(x.Label, next(len(d.Names)+1))
	}
	return x
}

// withOtherNames: a machine that tells the same, with its names in another order, and others between.
func withOtherNames(d api.Dfa, next func(most int) int) api.Dfa {
	l := slices.Clone(d.Names)
	for len(l) < api.MaxRules && next(3) > 0 {
		l = append(l, "more_"+string(rune('a'+len(l)%26))+string(rune('a'+len(l)/26)))
	}
	// Names that may be, and have all that were there: no error comes.
	x, _ := label.Names(d, sample.Shuffled(l, next))
	return x
}

// otherwise: a machine that tells the same names of all words as another one does: each state several times, in another order; with states to which no word leads; with labels and names at other places; with more classes.
func otherwise(d api.Dfa, next func(most int) int) api.Dfa {
	for range 1 + next(4) {
		switch next(4) {
		case 0:
			d, _ = sample.Unfolded(d, len(d.Label)+next(10), next)
		case 1:
			d = withMore(d, next(6), next)
		case 2:
			d = withOtherNames(d, next)
		case 3:
			d = sample.Spread(d, 1+next(3), next)
		}
	}
	// 0 stays where it is.
	if next(2) == 0 {
		d = renumbered(d, append(ints(0), sample.Shuffled(upTo(1, len(d.Label)), next)...))
	}
	return d
}

// Random machines, and others that tell the same names of all words: Small has the same number of states, and tells the same names; it has no more than any of them.
func TestP2504Random(t *testing.T) {
	t.Parallel()
	next := sample.Chances()
	sizes := map[int]int{}
	var fewer, names, wider int
	for i := range 1200 {
		d := sample.AnyDfa(1+i%14, next)
		for s := range d.Label {
			if i%3 > 0 {
				d.Label[s] = next(min(len(d.Names), 3) + 1)
			}
		}
		words := sample.ClassWords(d, next)
		x := holdLeast(t, d, words)
		for range 4 {
			other := otherwise(d, next)
			y := holdLeast(t, other, words)
			if len(y.Label) != len(x.Label) || len(y.Label) > len(other.Label) {
				t.Errorf("Small has %d states of %s\nand %d of %s", len(x.Label), brief(d), len(y.Label), brief(other))
			}
			for _, w := range words {
				if nameAt(y, sample.Behind(y, w)) != nameAt(d, sample.Behind(d, w)) {
					t.Errorf("of %q another name is told by what Small tells of %s", front(w), brief(other))
				}
			}
			if len(other.Label) > len(y.Label) {
				fewer++
			}
			if !slices.Equal(other.Names, d.Names) {
				names++
			}
			if other.Width > d.Width {
				wider++
			}
			// What Small tells, made another one that tells the same, becomes no greater than that.
			if again := holdLeast(t, otherwise(x, next), nil); len(again.Label) != len(x.Label) {
				t.Errorf("Small has %d states of %s, and %d, as the same is told otherwise", len(x.Label), brief(d), len(again.Label))
			}
		}
		if sizes[min(len(x.Label), 6)]++; t.Failed() {
			return
		}
	}
	if min(fewer, names, wider) < 1000 || len(sizes) < 6 || slices.Min(slices.Collect(maps.Values(sizes))) < 40 {
		t.Errorf("so often there were fewer states, other names, more classes: %d, %d, %d; and so many states %v", fewer, names, wider, sizes)
	}
}

// No machine of fewer states tells the same: there are as many words as states, of which any two are told apart by what is told behind them.
func TestP2504WordsApart(t *testing.T) {
	t.Parallel()
	next := sample.Chances()
	for i := range 500 {
		d, _ := sample.AnyUnfolded(1+i%9, next)
		if d.Width > 8 {
			continue
		}
		// A word of one byte of each class that leads to each state, and all short words behind it.
		bytes := make([]byte, d.Width)
		for b, class := range d.Of {
			bytes[class] = byte(b)
		}
		lead := map[int]string{0: ""}
		for at := ints(0); len(at) > 0; at = at[1:] {
			for class, to := range d.Next[at[0]] {
				if _, ok := lead[to]; !ok {
					lead[to], at = lead[at[0]]+string(bytes[class:class+1]), append(at, to)
				}
			}
		}
		apart := sample.Apart(d)
		states := slices.Sorted(maps.Keys(lead))
		numbers := sample.Grouped(len(states), func(x, y int) bool { return apart[states[x]][states[y]] < 0 })
		x := holdLeast(t, d, nil)
		if len(x.Label) != slices.Max(numbers)+1 {
			t.Errorf("Small has %d states, and words lead to %d that are not alike, of %s", len(x.Label), slices.Max(numbers)+1, brief(d))
		}
		behind := map[int]int{}
		for place, s := range states {
			at := sample.Behind(x, lead[s])
			if was, ok := behind[numbers[place]]; ok && was != at {
				t.Errorf("%q leads to %d, and another word, behind which the same is told, to %d, in %s", lead[s], at, was, brief(x))
			}
			behind[numbers[place]] = at
		}
		if t.Failed() {
			return
		}
	}
}

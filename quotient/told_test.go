package quotient

import (
	"slices"
	"strings"
	"testing"

	"doublet/api"
	"doublet/dfa"
	"doublet/sample"
)

// holdTold: what a call made of a machine may be, has its names, and tells the same of words.
func holdTold(t *testing.T, d api.Dfa, made answered, words []string, what string) {
	t.Helper()
	if made.wrong != api.OK || !dfa.Right(made.d) || !slices.Equal(made.d.Names, d.Names) {
		t.Errorf("%s tells %d, and %s, of %s", what, made.wrong, brief(made.d), brief(d))
		return
	}
	for i, w := range words {
		want := d.Label[sample.Behind(d, w)]
		if got := made.d.Label[sample.Behind(made.d, w)]; got != want {
			t.Errorf("of %q is told %d, want %d, by what %s tells of %s", front(w), got, want, what, brief(d))
		}
		if i%40 == 0 && dfa.Name(made.d, []byte(w)) != dfa.Name(d, []byte(w)) {
			t.Errorf("of %q is told %q, want %q, by what %s tells of %s", front(w), dfa.Name(made.d, []byte(w)), dfa.Name(d, []byte(w)), what, brief(d))
		}
	}
}

// holdAllTold: so do Of by blocks that are Stable, Merge, and both, one behind the other, in either order.
func holdAllTold(t *testing.T, d api.Dfa, l []int, words []string) {
	t.Helper()
	of, merged := told(Of(d, l)), told(Merge(d))
	holdTold(t, d, of, words, "Of")
	holdTold(t, d, merged, words, "Merge")
	holdTold(t, d, told(Merge(of.d)), words, "Merge, of what Of tells,")
	holdTold(t, d, told(Of(merged.d, l)), words, "Of, of what Merge tells,")
}

// thirds: a machine that tells of a word the rest by three of how many a it has, and of how many digits; it has each state twice, and each digit has a class of its own.
func thirds() (api.Dfa, []int) {
	d := quiet(18, 12)
	d.Names = split("none both a digit")
	d.Of = classes{'a': 11}
	for i := range 10 {
		d.Of['0'+i] = uint8(i + 1)
	}
	for s, row := range d.Next {
		as, digits := s%3, s/3%3
		for class := range row {
			row[class] = as + digits*3 + 9*(class%2)
			if class > 0 && class < 11 {
				row[class] = as + (digits+1)%3*3 + 9*(class%2)
			}
		}
		row[11] = (as+1)%3 + digits*3 + 9*(s/9)
		switch {
		case as == 0 && digits == 0:
			d.Label[s] = 1
		case as == 1 && digits == 2:
			d.Label[s] = 2
		case as == 2:
			d.Label[s] = 3
		case digits == 1:
			d.Label[s] = 4
		}
	}
	return d, rest(18, 9)
}

func TestP2305WrittenOut(t *testing.T) {
	d, l := thirds()
	want := map[string]string{"": "none", "a": "", "aa": "a", "aaa": "none", "0": "digit", "09": "", "123": "none", "a0": "digit", "a00": "both", "5a7": "both", "a12a": "a", "x": "none", "xaxa": "a", "a1b2c3": "", "aaa123456": "none", "0aaa": "digit", "99aaaa": "both"}
	var words []string
	for w, name := range want {
		if got := dfa.Name(d, []byte(w)); got != name {
			t.Errorf("of %q is told %q, want %q", w, got, name)
		}
		words = append(words, w)
	}
	of, merged := told(Of(d, l)), told(Merge(d))
	both, turned := told(Merge(of.d)), told(Of(merged.d, l))
	for what, made := range map[string]answered{"Of": of, "Merge": merged, "Merge of Of": both, "Of of Merge": turned} {
		for w, name := range want {
			if got := dfa.Name(made.d, []byte(w)); made.wrong != api.OK || got != name {
				t.Errorf("%s tells %d, and of %q %q, want %q", what, made.wrong, w, got, name)
			}
		}
	}
	// The digits part states that are in one block, so that some classes are left; behind Of all digits are alike.
	for what, sizes := range map[string][4]int{"states": {len(of.d.Label), len(merged.d.Label), len(both.d.Label), len(turned.d.Label)}, "classes": {of.d.Width, merged.d.Width, both.d.Width, turned.d.Width}} {
		if want := map[string][4]int{"states": {9, 18, 9, 9}, "classes": {12, 4, 3, 4}}[what]; sizes != want {
			t.Errorf("of %s there are %v, want %v", what, sizes, want)
		}
	}
	holdAllTold(t, d, l, words)
	holdAllTold(t, d, l, sample.AllWords("a05x", 5))
	holdAllTold(t, tree(6), ints(0, 1, 4, 2, 2, 2, 3), sample.AllWords("\x00\xff", 6))
	holdAllTold(t, ring("x y", 1, 0, 2, 1, 0, 2), rest(6, 3), sample.AllWords("ab", 8))
}

// All small machines, with all blocks of them that are Stable, and all words of up to four bytes.
func TestP2305SmallMachines(t *testing.T) {
	t.Parallel()
	words := sample.AllWords("\x00\xff", 4)
	fewer := 0
	for _, size := range [][3]int{{1, 1, 1}, {1, 2, 1}, {2, 1, 2}, {2, 2, 2}, {3, 1, 2}, {3, 2, 1}} {
		all := partitions(size[0])
		sample.EachDfa(size[0], size[1], size[2], func(d api.Dfa) {
			for _, l := range all {
				if modelStable(d, l) && !t.Failed() {
					fewer += size[0] - 1 - slices.Max(l)
					holdAllTold(t, d, l, words)
				}
			}
		})
	}
	if fewer < 1000 {
		t.Errorf("only %d states went", fewer)
	}
}

// Random machines and blocks, with all short words of one byte of each class, and random words.
func TestP2305RandomMachines(t *testing.T) {
	t.Parallel()
	next := sample.Chances()
	fewer, merged := [2]int{}, [2]int{}
	for i := range 600 {
		d, l := anyMachine(1+i%30, next)
		for s, block := range modelNorm(l) {
			if len(d.Names) > 0 {
				d.Label[s] = block % (len(d.Names) + 1)
			}
		}
		l = turned(modelNorm(l), sample.OneOf(turns(), next))
		holdAllTold(t, d, l, sample.ClassWords(d, next))
		x, _ := Of(d, l)
		y, _ := Merge(d)
		count(&fewer, len(x.Label) < len(d.Label))
		if count(&merged, y.Width < d.Width); t.Failed() {
			return
		}
	}
	if min(fewer[0], fewer[1], merged[0], merged[1]) < 100 {
		t.Errorf("so often there were fewer states, %v, and classes, %v", fewer, merged)
	}
}

// Long words.
func TestP2305LongWords(t *testing.T) {
	t.Parallel()
	next := sample.Chances()
	for _, states := range []int{1, 10, 1000} {
		d, l := sample.Unfolded(leading(states, 5, min(64, states-1)), 4*states, next)
		d = sample.Spread(d, 9, next)
		var words []string
		for range 30 {
			words = append(words, sample.AnyWord(next(5000), sample.Edgy, next), strings.Repeat("z", next(3000)))
		}
		holdAllTold(t, d, l, words)
	}
}

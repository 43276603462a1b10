package label

import (
	"slices"
	"strings"
	"testing"

	"doublet/api"
	"doublet/dfa"
	"doublet/sample"
)

// nameOf: the name that a machine which may be tells of a word.
func nameOf(d api.Dfa, w string) string { return modelName(d, sample.Behind(d, w)) }

// change: a call that makes another machine, and the name that it has to tell of a word of which one was told.
type change struct {
	what string
	made answered
	want func(w, was string) string
}

// changes: all calls on a machine that may be, with one list that has what is Used, and one name.
func changes(d api.Dfa, l []string, name string) []change {
	theSame := func(_, was string) string { return was }
	only := func(_, was string) string {
		if was == name {
			return was
		}
		return ""
	}
	plus := func(w, was string) string {
		if w == "" {
			return ""
		}
		return was
	}
	return []change{{"Names", told(Names(d, l)), theSame}, {"Norm", told(Norm(d)), theSame}, {"Only of " + name, told(Only(d, name)), only}, {"Plus", told(Plus(d)), plus}}
}

// holdTold: what each call makes may be, and tells of words what it has to. It tells how often each name, and none, was told ahead.
func holdTold(t *testing.T, d api.Dfa, l []string, name string, words []string) map[string]int {
	t.Helper()
	met := map[string]int{}
	for _, c := range changes(d, l, name) {
		if c.made.wrong != api.OK || !dfa.Right(c.made.d) {
			t.Errorf("%s tells %d, and %s, of %s", c.what, c.made.wrong, brief(c.made.d), brief(d))
			continue
		}
		for i, w := range words {
			was := nameOf(d, w)
			met[was]++
			want := c.want(w, was)
			if got := nameOf(c.made.d, w); got != want {
				t.Errorf("of %q is told %q, want %q, by what %s tells of %s", front(w), got, want, c.what, brief(d))
			}
			if i%40 == 0 && dfa.Name(c.made.d, []byte(w)) != want {
				t.Errorf("of %q is told %q, want %q, by what %s tells of %s", front(w), dfa.Name(c.made.d, []byte(w)), want, c.what, brief(d))
			}
		}
	}
	return met
}

// even: a machine that tells of a word whether it has an odd number of a, or an even one; where that is even, and there is a b, it tells b.
func even() api.Dfa {
	d := rows("odd even b", ints(2, 1, 3, 1), ints(0, 1, 2), ints(1, 0, 3), ints(2, 3, 2), ints(3, 2, 3))
	d.Of, d.Width = [256]uint8{'a': 1, 'b': 2}, 3
	return d
}

func TestP2205WrittenOut(t *testing.T) {
	want := map[string]string{"": "even", "a": "odd", "aa": "even", "b": "b", "ab": "odd", "ba": "odd", "aba": "b", "bb": "b", "x": "even", "xax": "odd", "xbx": "b", "aaaab": "b", "aaab": "odd"}
	check := func(what string, made answered, told func(w, name string) string) {
		t.Helper()
		for w, name := range want {
			if got := dfa.Name(made.d, []byte(w)); made.wrong != api.OK || got != told(w, name) {
				t.Errorf("%s tells %d, and of %q %q, want %q", what, made.wrong, w, got, told(w, name))
			}
		}
	}
	theSame := func(_, name string) string { return name }
	check("even", answered{d: even()}, theSame)
	check("Names", told(Names(even(), split("x b even y odd z"))), theSame)
	check("Norm", told(Norm(even())), theSame)
	for _, only := range split("odd even b x") {
		check("Only of "+only, told(Only(even(), only)), func(_, name string) string { return map[string]string{only: only}[name] })
	}
	check("Plus", told(Plus(even())), func(w, name string) string {
		if w == "" {
			return ""
		}
		return name
	})
	// One behind the other, in several orders.
	plus, _ := Plus(even())
	norm, _ := Norm(plus)
	only, _ := Only(norm, "even")
	again, _ := Plus(only)
	if !dfa.Same(only, again) {
		t.Errorf("Plus of what has no label at 0 is %s, want %s", brief(again), brief(only))
	}
	other, _ := Only(even(), "even")
	other, _ = Plus(other)
	holdDfa(t, told(Norm(other)), only, "Norm, of Plus, of Only")
	holdTold(t, even(), split("b even odd"), "even", sample.AllWords("abx", 6))
}

// All small machines, with all words of up to four bytes.
func TestP2205SmallMachines(t *testing.T) {
	t.Parallel()
	words := sample.AllWords("\x00\xff", 4)
	lists := [][]string{{"b", "a"}, {"a", "b"}, {"c", "b", "d", "a"}}
	at := 0
	eachSmall(func(d api.Dfa) {
		if at++; !t.Failed() {
			holdTold(t, d, lists[at%3], []string{"a", "b", "c", "a", "b"}[at%5], words)
		}
	})
}

// Random machines, of up to 64 names, with all short words of one byte of each class, and random words.
func TestP2205RandomMachines(t *testing.T) {
	t.Parallel()
	next := sample.Chances()
	met := map[bool]int{}
	empty := map[bool]int{}
	for i := range 600 {
		d := sample.AnyDfa(1+next(1+i%30), next)
		for s := range d.Label {
			if next(2) == 0 {
				d.Label[s] = next(len(d.Names) + 1)
			}
		}
		l := sample.Shuffled(modelUsed(d), next)
		for _, name := range []string{"more", "d9", "e_"} {
			if len(l) < api.MaxRules && next(2) == 0 {
				l = slices.Insert(l, next(len(l)+1), name)
			}
		}
		name := "more"
		if len(d.Names) > 0 {
			name = sample.OneOf(d.Names, next)
		}
		for told, times := range holdTold(t, d, l, name, sample.ClassWords(d, next)) {
			met[told == ""] += times
		}
		if empty[nameOf(d, "") == ""]++; t.Failed() {
			return
		}
	}
	if min(met[true], met[false]) < 20000 || min(empty[true], empty[false]) < 100 {
		t.Errorf("so often none was told: %v, and so often of the empty word: %v", met, empty)
	}
}

// Long words.
func TestP2205LongWords(t *testing.T) {
	t.Parallel()
	next := sample.Chances()
	for _, states := range []int{1, 10, 1000, 5000} {
		d := leading(states, 5, min(64, states-1))
		for _, label := range []int{0, len(d.Names)} {
			d.Label[0] = label
			var words []string
			for range 30 {
				words = append(words, sample.AnyWord(next(5000), sample.Edgy, next), strings.Repeat("z", next(3000)))
			}
			name := "other"
			if len(d.Names) > 0 {
				name = d.Names[len(d.Names)/2]
			}
			holdTold(t, d, sample.Turned(d.Names), name, append(words, ""))
		}
	}
}

package label

import (
	"slices"
	"strings"
	"testing"

	"doublet/api"
	"doublet/sample"
)

func TestP2203NamesWrittenOut(t *testing.T) {
	d := ring("b a c", 1, 2, 0, 1, 2)
	for _, r := range []struct {
		names  string
		labels []int
	}{
		// The same names; in another order; more of them; without the one that no state has.
		{"b a c", []int{1, 2, 0, 1, 2}}, {"a b c", []int{2, 1, 0, 2, 1}}, {"c a b", []int{3, 2, 0, 3, 2}}, {"c b a", []int{2, 3, 0, 2, 3}}, {"a c b", []int{3, 1, 0, 3, 1}},
		{"b a c d", []int{1, 2, 0, 1, 2}}, {"d b a c", []int{2, 3, 0, 2, 3}}, {"b d a c", []int{1, 3, 0, 1, 3}}, {"aa bb a A B b", []int{6, 3, 0, 6, 3}},
		{"b a", []int{1, 2, 0, 1, 2}}, {"a b", []int{2, 1, 0, 2, 1}}, {"x a y b z", []int{4, 2, 0, 4, 2}},
	} {
		holdNames(t, d, split(r.names), with(d, split(r.names), r.labels...))
		// And back.
		holdNames(t, with(d, split(r.names), r.labels...), d.Names, d)
	}
	// A name that is Used is missing: the first one, the last one, all.
	for _, names := range []string{"a", "b", "c", "c a", "b c", "", "B A C", "bb aa", "b_ a", "b a_", "x y z"} {
		holdNamesError(t, d, split(names), api.ErrNone)
	}
	holdNamesError(t, d, nil, api.ErrNone)
	holdNamesError(t, d, []string{}, api.ErrNone)
	// So also where one state alone has it, to which no word comes.
	x := with(quiet(3, 2), split("x y"), 0, 0, 2)
	holdNamesError(t, x, split("x"), api.ErrNone)
	holdNames(t, x, split("y"), with(x, split("y"), 0, 0, 1))
	// No names, of machines without labels.
	for _, d := range []api.Dfa{quiet(1, 1), quiet(3, 256), ring("b a", 0, 0), ring("", 0)} {
		holdNames(t, d, nil, with(d, nil, d.Label...))
		holdNames(t, d, []string{}, with(d, nil, d.Label...))
		holdNames(t, d, split("z y"), with(d, split("z y"), d.Label...))
	}
}

// Labels 0 stay 0, whatever the names are; the classes and the states behind stay as they are.
func TestP2203NamesAllElse(t *testing.T) {
	t.Parallel()
	next := sample.Chances()
	for many := range api.MaxRules + 1 {
		d := sample.AnyDfa(70, next)
		d.Names = called(many)
		for s := range d.Label {
			d.Label[s] = (s + many) % (many + 1)
		}
		for _, other := range []int{many, many + 1, api.MaxRules} {
			l := sample.Shuffled(called(min(other, api.MaxRules)), next)
			want := with(d, l, make([]int, 70)...)
			for s, label := range d.Label {
				if label > 0 {
					want.Label[s] = slices.Index(l, d.Names[label-1]) + 1
				}
			}
			holdNames(t, d, l, want)
			holdNames(t, want, d.Names, d)
		}
		// The first label alone, and the last one: all other names may go.
		if many > 0 {
			for _, label := range []int{1, many} {
				x := quietly(d)
				x.Label[5], x.Label[69] = label, label
				name := d.Names[label-1]
				want := quietly(d)
				want.Label[5], want.Label[69], want.Names = 1, 1, []string{name}
				holdNames(t, x, []string{name}, want)
				holdNamesError(t, x, []string{name + "_"}, wrongName(name+"_", api.ErrNone))
				want.Label[5], want.Label[69], want.Names = 3, 3, []string{"u", "v", name, "w"}
				holdNames(t, x, want.Names, want)
			}
		}
	}
}

// wrongName: ErrArg, if a name is too long; else the other error.
func wrongName(name string, other api.Errno) api.Errno {
	if len(name) > api.MaxName {
		return api.ErrArg
	}
	return other
}

// As many names as there may be, and one more.
func TestP2203NamesMaxRules(t *testing.T) {
	d := ring("", upTo(0, api.MaxRules+1)...)
	d.Names = called(api.MaxRules)
	holdNames(t, d, d.Names, d)
	want := d
	want.Names, want.Label = sample.Turned(d.Names), append([]int{0}, sample.Turned(d.Label[1:])...)
	holdNames(t, d, want.Names, want)
	one := ring("n5", 1, 0)
	holdNames(t, one, d.Names, with(one, d.Names, 6, 0))
	for _, x := range []api.Dfa{d, one, ring("", 0), quiet(3, 2)} {
		for _, many := range []int{api.MaxRules + 1, api.MaxRules + 2, 128, 256, 1 << 16} {
			holdNamesError(t, x, called(many), api.ErrArg)
			holdNamesError(t, x, sample.Turned(called(many)), api.ErrArg)
		}
		holdNamesError(t, x, slices.Repeat([]string{"n5"}, 1<<20), api.ErrArg)
	}
}

// Names that may not be, at the first, a middle and the last place: ErrArg, also where a name that is Used is missing.
func TestP2203NamesMayNotBe(t *testing.T) {
	t.Parallel()
	machines := []api.Dfa{ring("b a c", 1, 2, 0), ring("b a c", 3), ring("b a c", 0, 0), quiet(2, 2)}
	hold := func(l ...string) {
		t.Helper()
		for _, d := range machines {
			holdNamesError(t, d, l, api.ErrArg)
		}
	}
	for _, name := range sample.WrongNames() {
		for at := range 4 {
			hold(slices.Insert(split("b a c"), at, name)...)
			hold(slices.Insert(split("x y z"), at, name)...)
		}
		hold(name)
		hold(name, "a")
	}
	for _, names := range []string{"a a", "b a c b", "b b a c", "b a a c", "b a c c", "x x", "x y x", "c c c", "b a c d e f d"} {
		hold(split(names)...)
	}
	for length := range 70 {
		name := strings.Repeat("n", length)
		if length < 1 || length > 32 {
			hold("b", "a", "c", name)
			hold(name)
			continue
		}
		for _, d := range machines {
			l := []string{"b", "a", "c", name}
			holdNames(t, d, l, with(d, l, d.Label...))
		}
	}
	for b := range 256 {
		one := string([]byte{byte(b)})
		for _, name := range []string{one, "x" + one, "x" + one + "x"} {
			if !named32.MatchString(name) {
				hold("b", "a", "c", name)
				hold(name)
			}
		}
	}
}

func TestP2203NormWrittenOut(t *testing.T) {
	for _, r := range []struct {
		names  string
		labels []int
		normal string
		want   []int
	}{
		// The chapter's example.
		{"b a c", []int{1, 2, 0}, "a b", []int{2, 1, 0}},
		{"b a c", []int{0, 1, 2, 1, 0}, "a b", []int{0, 2, 1, 2, 0}},
		// In order already, with and without some that no state has; the other way round.
		{"a b c", []int{1, 2, 3, 0}, "a b c", []int{1, 2, 3, 0}},
		{"a b c d", []int{0, 2, 4, 2}, "b d", []int{0, 1, 2, 1}},
		{"c b a", []int{1, 2, 3, 0}, "a b c", []int{3, 2, 1, 0}},
		{"d c b a", []int{0, 1, 3}, "b d", []int{0, 2, 1}},
		{"b c a", []int{1, 2, 3}, "a b c", []int{2, 3, 1}},
		// One that is Used, the first one, the last one; none.
		{"c b a", []int{1}, "c", []int{1}},
		{"c b a", []int{0, 3}, "a", []int{0, 1}},
		{"c b a", []int{0, 0}, "", []int{0, 0}},
		{"", []int{0}, "", []int{0}},
		{"a aa A _ a0", []int{1, 2, 3, 4, 5}, "A _ a a0 aa", []int{3, 5, 1, 2, 4}},
	} {
		d := ring(r.names, r.labels...)
		holdNorm(t, d, with(d, split(r.normal), r.want...))
	}
	// A name of a state that no word comes to stays.
	d := with(quiet(4, 3), split("z y x"), 0, 1, 0, 3)
	holdNorm(t, d, with(d, split("x z"), 0, 2, 0, 1))
}

// As many names as there may be, in whatever order; all of them Used, or all but some.
func TestP2203NormMany(t *testing.T) {
	t.Parallel()
	next := sample.Chances()
	all := split(rising)
	for i := range 300 {
		l := sample.Shuffled(all, next)[:1+next(api.MaxRules)]
		if i < 10 {
			l = sample.Shuffled(all, next)
		}
		d := ring("", upTo(0, len(l)+1)...)
		d.Names = l
		for range []int{0, 1, 7}[i%3] {
			d.Label[next(len(d.Label))] = 0
		}
		want, _ := modelNorm(d)
		holdNorm(t, d, want)
		if i < 10 && i%3 == 0 && !slices.Equal(want.Names, all) {
			t.Errorf("of all names Norm has %q", want.Names)
		}
		// The names' order changes nothing.
		x, wrong := Names(d, sample.Shuffled(d.Names, next))
		if wrong != api.OK {
			t.Errorf("Names tells %d, of %s", wrong, brief(d))
		}
		holdNorm(t, x, want)
	}
}

package label

import (
	"slices"
	"testing"

	"doublet/api"
	"doublet/sample"
)

// rising: names, in the order of their bytes: digits stand ahead of capital letters, these ahead of _, and that ahead of small ones; what is the front of another one stands ahead of it.
// There are as many as there may be.
const rising = "A A0 A00 A9 AA AAA AAAA AZ A_ Aa Aaa Az B BA B_ Ba Z Z9Z ZZ Z_ Zz Zzz _ _0 _A _Z __ ___ _a _z a a0 a00 a0a a10 a2 a9 aA aZ a_ a_a aa aaa aaaa ab abc b ba i id idf if iff ifx y yz z z0 z9 zZ z_ zz zzz zzzz"

func TestP2202UsedWrittenOut(t *testing.T) {
	// The chapter's example, and about it.
	holdUsed(t, ring("b a c", 1, 2, 0), "a", "b")
	holdUsed(t, ring("b a c", 2, 1, 1, 2, 2), "a", "b")
	holdUsed(t, ring("b a c", 0, 0, 3), "c")
	holdUsed(t, ring("b a c", 3, 1, 2), "a", "b", "c")
	holdUsed(t, ring("c b a", 1), "c")
	// No labels: with names, and without.
	holdUsed(t, ring("b a c", 0, 0, 0))
	holdUsed(t, ring("", 0))
	for _, d := range []api.Dfa{quiet(1, 1), quiet(9, 3), quiet(2, 256), with(quiet(2, 1), called(64), 0, 0)} {
		holdUsed(t, d)
	}
	// One name, of many states, or of one: the first one, one between, the last one.
	d := leading(200, 2, 5)
	for s := range d.Label {
		d.Label[s] = 4
	}
	holdUsed(t, d, d.Names[3])
	for _, s := range []int{0, 1, 100, 199} {
		holdUsed(t, withLabel(quietly(d), s, 5), d.Names[4])
		holdUsed(t, withLabel(d, s, 1), append([]string{d.Names[3]}, d.Names[0])...)
	}
	// A name of a state that no word comes to is Used, too.
	holdUsed(t, with(quiet(3, 2), split("x y z"), 0, 3, 1), "x", "z")
}

// quietly: the same machine, without labels.
func quietly(d api.Dfa) api.Dfa {
	d.Label = make([]int, len(d.Label))
	return d
}

// Each of many names Used alone, all but one, and all, in whatever order they stand.
func TestP2202UsedEachName(t *testing.T) {
	t.Parallel()
	next := sample.Chances()
	all := split(rising)
	if len(all) != api.MaxRules || !slices.IsSorted(all) {
		t.Fatalf("the names are %q", all)
	}
	for range 20 {
		l := sample.Shuffled(all, next)
		d := ring("", upTo(0, len(l)+1)...)
		d.Names = l
		holdUsed(t, d, all...)
		for place, name := range l {
			at := slices.Index(all, name)
			holdUsed(t, withLabel(d, place+1, 0), slices.Delete(slices.Clone(all), at, at+1)...)
			holdUsed(t, withLabel(quietly(d), place, place+1), name)
		}
	}
	// Some of them: as many as there may be, and fewer.
	for many := range api.MaxRules + 1 {
		names := called(many)
		d := ring("", upTo(0, many+1)...)
		d.Names = names
		holdUsed(t, d, slices.Sorted(slices.Values(names))...)
		d.Names = called(api.MaxRules)
		holdUsed(t, d, slices.Sorted(slices.Values(names))...)
	}
}

// Each two names, in both orders.
func TestP2202UsedPairs(t *testing.T) {
	l := split(rising)
	for place, name := range l {
		for _, ahead := range l[:place] {
			holdUsed(t, with(ring("", 0, 0, 0), []string{ahead, name}, 1, 2, 0), ahead, name)
			holdUsed(t, with(ring("", 0, 0, 0), []string{name, ahead}, 0, 1, 2), ahead, name)
		}
	}
}

// Of a machine that may not be no name is Used, for whatever fault.
func TestP2202UsedMayNotBe(t *testing.T) {
	t.Parallel()
	met := map[string]int{}
	sample.EachWrongDfa(func(fault string, d api.Dfa) {
		met[fault]++
		holdUsed(t, d)
	})
	if len(met) < 10 {
		t.Errorf("so often each fault is met: %v", met)
	}
	d := ring("b a c", 1, 2, 0)
	for _, x := range []api.Dfa{withName(d, 2, ""), withName(d, 2, "a"), withName(d, 2, "9"), withLabel(d, 0, 4), withLabel(d, 2, -1), withNext(d, 2, 0, 3), withRow(d, 2, nil)} {
		holdUsed(t, x)
	}
}

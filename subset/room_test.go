package subset

import (
	"testing"

	"doublet/api"
	"doublet/sample"
)

// holdCount: of a machine there are so many subsets: with room for them it is made, with room for one less it is not.
func holdCount(t *testing.T, n api.Nfa, count int) {
	t.Helper()
	all, wrong := Sets(n, count)
	if wrong != api.OK || len(all) != count {
		t.Errorf("Sets, for %d, tells %d, and %d subsets, of %s", count, wrong, len(all), brief(n))
		return
	}
	d, wrong := Of(n, called(64), count)
	if wrong != api.OK || len(d.Label) != count {
		t.Errorf("Of, for %d, tells %d, and %s, of %s", count, wrong, single(d), brief(n))
	}
	want := api.ErrBig
	if count == 1 {
		want = api.ErrArg
	}
	holdSetsError(t, n, count-1, want)
	holdOfError(t, n, called(64), count-1, want)
}

// A machine of n states that has all 2 to the power of n subsets, each once; and one more would be too many, however they are met.
func TestP2106AllSubsets(t *testing.T) {
	t.Parallel()
	for states := 1; states <= 12; states++ {
		n := power(states)
		count := 1 << states
		holdCount(t, n, count)
		all, _ := Sets(n, most)
		met := map[int]int{}
		for _, subset := range all {
			bits := 0
			for _, state := range subset {
				bits |= 1 << state
			}
			met[bits]++
		}
		if len(met) != count {
			t.Errorf("of %d states there are %d subsets", states, len(met))
		}
		d, _ := Of(n, nil, count)
		if len(d.Label) != count || d.Width != min(4, 2+2*(states-1)) && states > 1 {
			t.Errorf("of %d states there are %d, and %d classes", states, len(d.Label), d.Width)
		}
	}
	// One subset of one state: with none less there is room for none.
	holdCount(t, with(bare(1), all(0, 0)), 1)
	holdCount(t, with(linked(3, 0, 1, 1, 2), all(0, 0)), 1)
	holdCount(t, with(linked(3, 0, 1, 1, 2), all(0, 1)), 3)
	holdCount(t, bare(1), 2)
}

// As many subsets as there may be in all: no more are told, and no more are made.
func TestP2106AsManyAsMayBe(t *testing.T) {
	t.Parallel()
	holdCount(t, power(16), most)
	for _, states := range []int{17, 20} {
		holdSetsError(t, power(states), most, api.ErrBig)
		holdOfError(t, power(states), nil, most, api.ErrBig)
	}
}

// Random machines: at most 2 to the power of states; with as many as there are they are made, with one less not.
func TestP2106Random(t *testing.T) {
	t.Parallel()
	next := sample.Chances()
	met := map[int]int{}
	for range 1500 {
		n := anyNfa(1+next(11), next)
		all, wrong := Sets(n, 3000)
		if wrong == api.ErrBig && n.States > 11 {
			continue
		}
		if wrong != api.OK || n.States < 16 && len(all) > 1<<n.States {
			t.Errorf("Sets tells %d, and %d subsets, of %s", wrong, len(all), brief(n))
		}
		holdCount(t, n, len(all))
		if met[min(len(all), 4)]++; t.Failed() {
			return
		}
	}
	if min(met[1], met[2], met[3], met[4]) < 30 {
		t.Errorf("so often there were so many subsets: %v", met)
	}
}

// Rules: with as many as there are the machine is made, with one less it is not, and with more it is the same.
func TestP2106Rules(t *testing.T) {
	t.Parallel()
	next := sample.Chances()
	l := [][]api.Rule{nil, ruled(a()), ruled(none()), written([2]string{"x", "(a|b)*a(a|b){9}"}), written([2]string{"x", `[^\n]|\n`}), written([2]string{"x", `([^\n]|\n)*`}), ruled(sample.Exactly(1000))}
	for range 400 {
		l = append(l, ruled(sample.SomeTrees(5, next)...))
	}
	for _, some := range l {
		if weightOf(some) > 3000 {
			continue
		}
		want, wrong := Rules(some, 4000)
		if wrong != api.OK {
			continue
		}
		count := len(want.Label)
		for _, room := range []int{count, count + 1, 4001, most} {
			holdRules(t, some, room, want)
		}
		less := api.ErrBig
		if count == 1 {
			less = api.ErrArg
		}
		holdRulesError(t, some, count-1, less)
		if count > 2 {
			holdRulesError(t, some, 1+next(count-1), api.ErrBig)
		}
	}
}

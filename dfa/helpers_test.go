package dfa

import (
	"fmt"
	"math"
	"slices"
	"testing"

	"doublet/api"
	"doublet/sample"
	"doublet/texts"
)

const (
	greatest = math.MaxInt
	least    = math.MinInt
	most     = api.MaxStates
)

// Short names for what most machines are made of.
var (
	quiet, leading, called        = sample.Quiet, sample.Leading, sample.Called
	withNext, withRow             = sample.WithNext, sample.WithRow
	withLabel, withName, outsides = sample.WithLabel, sample.WithName, sample.Outside
	spoilt, anyNumber             = sample.SpoiltDfa, sample.DfaNumber

	front, exact = texts.Front, texts.Dfa
	upTo         = sample.UpTo
)

// brief and many are a machine, and numbers, of which a text is made where one is asked for alone.
type (
	brief api.Dfa
	many  []int
)

func (d brief) String() string { return texts.BriefDfa(api.Dfa(d)) }
func (l many) String() string  { return front(fmt.Sprint([]int(l))) }

// made: a machine in which each of a text's bytes, which rise, is of a class of its own, from 1 on, and all others are of 0; with a label, and a row, for each state.
func made(bytes string, labels []int, rows ...[]int) api.Dfa {
	d := api.Dfa{Width: len(bytes) + 1, Next: rows, Label: labels, Names: called(slices.Max(labels))}
	for i := range len(bytes) {
		d.Of[bytes[i]] = uint8(i + 1)
	}
	return d
}

// unary: a machine with one class, in which behind each state stands one other; none has a label.
func unary(behind ...int) api.Dfa {
	d := quiet(len(behind), 1)
	for s, to := range behind {
		d.Next[s][0] = to
	}
	return d
}

// labels: a machine with a label, of one name, at some states alone.
func labels(d api.Dfa, states ...int) api.Dfa {
	d.Label, d.Names = make([]int, len(d.Label)), called(1)
	for _, s := range states {
		d.Label[s] = 1
	}
	return d
}

// backTo: the numbers below hi, falling to lo.
func backTo(lo, hi int) []int {
	l := upTo(lo, hi)
	slices.Reverse(l)
	return l
}

// permuted: all orders of a list's elements.
func permuted(l []int) [][]int {
	if len(l) == 0 {
		return [][]int{nil}
	}
	var all [][]int
	for _, rest := range permuted(l[1:]) {
		for at := range len(l) {
			all = append(all, slices.Insert(slices.Clone(rest), at, l[0]))
		}
	}
	return all
}

// holdRight: whether a machine may be.
func holdRight(t *testing.T, d api.Dfa, want bool, what string, about ...any) {
	t.Helper()
	if got := Right(d); got != want {
		t.Errorf("Right, %s, is %t of %s", fmt.Sprintf(what, about...), got, brief(d))
	}
}

// holdSame: whether two machines are the same, whichever of both comes first.
func holdSame(t *testing.T, a, b api.Dfa, want bool) {
	t.Helper()
	if Same(a, b) != want || Same(b, a) != want {
		t.Errorf("Same is %t, and %t the other way round, of\n%s, and\n%s", Same(a, b), Same(b, a), brief(a), brief(b))
	}
}

// holdList: a call tells just these numbers, in this order.
func holdList(t *testing.T, got, want []int, what string, about ...any) {
	t.Helper()
	if !slices.Equal(got, want) {
		t.Errorf("%s is %s, want %s", fmt.Sprintf(what, about...), many(got), many(want))
	}
}

// holdReach and holdLive: of a machine Reach, or Live, tells just these states.
func holdReach(t *testing.T, d api.Dfa, want ...int) {
	t.Helper()
	holdList(t, Reach(d), want, "Reach of %s", brief(d))
}

func holdLive(t *testing.T, d api.Dfa, want ...int) {
	t.Helper()
	holdList(t, Live(d), want, "Live of %s", brief(d))
}

// holdDfa: a call tells just this machine, and no error.
func holdDfa(t *testing.T, got api.Dfa, wrong api.Errno, want api.Dfa, what string, about ...any) {
	t.Helper()
	if wrong != api.OK || !same(got, want) {
		t.Errorf("%s is, with the error %d,\n%s, want\n%s", fmt.Sprintf(what, about...), wrong, brief(got), brief(want))
	}
}

// holdError: a call tells just this error, and an empty machine beside it.
func holdError(t *testing.T, got api.Dfa, wrong, want api.Errno, what string, about ...any) {
	t.Helper()
	if wrong != want || !same(got, api.Dfa{}) {
		t.Errorf("%s tells the error %d, want %d, and %s", fmt.Sprintf(what, about...), wrong, want, brief(got))
	}
}

// holdKeep: of some states of a machine Keep makes just this one.
func holdKeep(t *testing.T, d api.Dfa, l []int, want api.Dfa) {
	t.Helper()
	got, wrong := Keep(d, l)
	holdDfa(t, got, wrong, want, "Keep of %s of %s", many(l), brief(d))
}

// holdKeepError: of a machine and a list Keep tells this error.
func holdKeepError(t *testing.T, d api.Dfa, l []int, want api.Errno) {
	t.Helper()
	got, wrong := Keep(d, l)
	holdError(t, got, wrong, want, "Keep of %s of %s", many(l), brief(d))
}

// holdTrim: of a machine Trim makes just this one.
func holdTrim(t *testing.T, d, want api.Dfa) {
	t.Helper()
	got, wrong := Trim(d)
	holdDfa(t, got, wrong, want, "Trim of %s", brief(d))
}

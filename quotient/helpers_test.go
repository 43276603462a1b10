package quotient

import (
	"fmt"
	"math"
	"math/bits"
	"slices"
	"strings"
	"testing"

	"doublet/api"
	"doublet/dfa"
	"doublet/parts"
	"doublet/sample"
	"doublet/texts"
)

const (
	greatest = math.MaxInt
	least    = math.MinInt
	most     = api.MaxStates
)

// Short names for what most machines and blocks are made of.
var (
	quiet, leading, called, rows           = sample.Quiet, sample.Leading, sample.Called, sample.Rows
	withNext, withRow, withLabel, withName = sample.WithNext, sample.WithRow, sample.WithLabel, sample.WithName

	ring, by, rest, partitions = sample.Ring, sample.By, sample.Rest, sample.Partitions
	anyMachine                 = sample.AnyUnfolded

	front, split = texts.Front, strings.Fields
	upTo         = sample.UpTo
)

// classes: a number for each byte.
type classes = [256]uint8

// brief and many are a machine, and numbers, of which a text is made where one is asked for alone.
type (
	brief api.Dfa
	many  []int
)

func (d brief) String() string { return texts.BriefDfa(api.Dfa(d)) }
func (l many) String() string {
	return fmt.Sprintf("%d, ", len(l)) + front(fmt.Sprint([]int(l[:min(len(l), 100)])))
}

func ints(l ...int) []int { return l }

// turns: ways to give normal blocks other numbers: the other way round, below 0, very great, and such as are the same but for a few bits.
func turns() []func(n int) int {
	return []func(n int) int{
		func(n int) int { return n },
		func(n int) int { return -n },
		func(n int) int { return n - 1 },
		func(n int) int { return least + n },
		func(n int) int { return greatest - n },
		func(n int) int { return n << 32 },
		func(n int) int { return n<<16 + 5 },
		func(n int) int { return int(bits.Reverse64(uint64(n))) },
		func(n int) int { return n*6364136223846793005 + 1442695040888963407 },
	}
}

// turned: the same blocks with other numbers.
func turned(l []int, turn func(n int) int) []int {
	return by(len(l), func(s int) int { return turn(l[s]) })
}

// grouped: the classes that come of a machine's, if each has another number.
func grouped(d api.Dfa, numbers []int) classes {
	var of classes
	for b, class := range d.Of {
		of[b] = uint8(numbers[class])
	}
	return of
}

// holdBlocks: a call tells just these blocks.
func holdBlocks(t *testing.T, got, want []int, what string, about ...any) {
	t.Helper()
	if !slices.Equal(got, want) {
		t.Errorf("%s is %s, want %s", fmt.Sprintf(what, about...), many(got), many(want))
	}
}

// holdNorm: of numbers Norm tells just these ones, and so it does of these, with whatever numbers.
func holdNorm(t *testing.T, l, want []int) {
	t.Helper()
	holdBlocks(t, Norm(l), want, "Norm of %s", many(l))
	for _, turn := range turns() {
		other := turned(want, turn)
		holdBlocks(t, Norm(other), want, "Norm of %s", many(other))
	}
}

// holdJoin: of two lists Join tells just these blocks, whichever comes first, with whatever numbers.
func holdJoin(t *testing.T, a, b, want []int) {
	t.Helper()
	hold := func(a, b []int) {
		t.Helper()
		holdBlocks(t, Join(a, b), want, "Join of %s and %s", many(a), many(b))
		holdBlocks(t, Join(b, a), want, "Join of %s and %s", many(b), many(a))
	}
	hold(a, b)
	one, other := modelNorm(a), modelNorm(b)
	for _, turn := range turns() {
		for _, back := range turns() {
			hold(turned(one, turn), turned(other, back))
		}
	}
}

// holdFiner: whether one list is finer than another one, with whatever numbers.
func holdFiner(t *testing.T, a, b []int, want bool) {
	t.Helper()
	hold := func(a, b []int) {
		t.Helper()
		if Finer(a, b) != want {
			t.Errorf("Finer is %t of %s and %s", !want, many(a), many(b))
		}
	}
	hold(a, b)
	one, other := modelNorm(a), modelNorm(b)
	for _, turn := range turns() {
		hold(turned(one, turn), b)
		hold(a, turned(other, turn))
		hold(turned(one, turn), turned(other, turn))
	}
}

// answered: a machine, and an error, that a call told.
type answered struct {
	d     api.Dfa
	wrong api.Errno
}

func told(d api.Dfa, wrong api.Errno) answered { return answered{d, wrong} }

// holdDfa: a call told just this machine, which may be, and no error.
func holdDfa(t *testing.T, got answered, want api.Dfa, what string, about ...any) {
	t.Helper()
	if got.wrong != api.OK || !dfa.Same(got.d, want) || !dfa.Right(got.d) {
		t.Errorf("%s tells %d, and\n%s, want\n%s", fmt.Sprintf(what, about...), got.wrong, brief(got.d), brief(want))
	}
}

// holdError: a call told just this error, and an empty machine beside it.
func holdError(t *testing.T, got answered, want api.Errno, what string, about ...any) {
	t.Helper()
	if got.wrong != want || !dfa.Same(got.d, api.Dfa{}) {
		t.Errorf("%s tells %d, want %d, and %s", fmt.Sprintf(what, about...), got.wrong, want, brief(got.d))
	}
}

// holdStable: whether blocks of a machine are Stable.
func holdStable(t *testing.T, d api.Dfa, l []int, want bool) {
	t.Helper()
	if Stable(d, l) != want {
		t.Errorf("Stable is %t of %s, and %s", !want, many(l), brief(d))
	}
}

// holdOf: blocks are Stable, and by them Of tells just this machine, with whatever numbers.
func holdOf(t *testing.T, d api.Dfa, l []int, want api.Dfa) {
	t.Helper()
	hold := func(l []int) {
		t.Helper()
		holdStable(t, d, l, true)
		holdDfa(t, told(Of(d, l)), want, "Of, by %s, of %s", many(l), brief(d))
	}
	hold(l)
	for _, turn := range turns() {
		hold(turned(modelNorm(l), turn))
	}
}

// holdOfError: blocks are not Stable, and by them Of tells just this error.
func holdOfError(t *testing.T, d api.Dfa, l []int, want api.Errno) {
	t.Helper()
	holdStable(t, d, l, false)
	holdError(t, told(Of(d, l)), want, "Of, by %s, of %s", many(l), brief(d))
}

// holdClasses: of a machine Classes tells just these classes, which are normal, and how many.
func holdClasses(t *testing.T, d api.Dfa, want classes, width int) {
	t.Helper()
	if of, n := Classes(d); of != want || n != width || !parts.Right(of, n) {
		t.Errorf("Classes are %s, and %d, want %s, and %d, of %s", front(texts.Classes(of)), n, front(texts.Classes(want)), width, brief(d))
	}
}

// holdMerge: of a machine Merge tells just this one, which has its Classes, and of that one the same.
func holdMerge(t *testing.T, d, want api.Dfa) {
	t.Helper()
	holdClasses(t, d, want.Of, want.Width)
	holdDfa(t, told(Merge(d)), want, "Merge of %s", brief(d))
	holdClasses(t, want, want.Of, want.Width)
	holdDfa(t, told(Merge(want)), want, "Merge of what Merge tells, %s,", brief(want))
}

// holdNoClasses: of a machine that may not be there are none, and Merge tells that.
func holdNoClasses(t *testing.T, d api.Dfa) {
	t.Helper()
	if of, n := Classes(d); of != (classes{}) || n != 0 {
		t.Errorf("Classes are %s, and %d, of %s", front(texts.Classes(of)), n, brief(d))
	}
	holdError(t, told(Merge(d)), api.ErrKind, "Merge of %s", brief(d))
}

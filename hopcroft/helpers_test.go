package hopcroft

import (
	"fmt"
	"math"
	"slices"
	"strings"
	"testing"

	"doublet/api"
	"doublet/dfa"
	"doublet/quotient"
	"doublet/sample"
	"doublet/texts"
)

const (
	greatest = math.MaxInt
	least    = math.MinInt
	most     = api.MaxStates
)

// Short names for what most machines and blocks are made of.
var (
	quiet, leading, called, rows           = sample.Quiet, sample.Leading, sample.Called, sample.Rows
	withNext, withRow, withLabel, withName = sample.WithNext, sample.WithRow, sample.WithLabel, sample.WithName

	ring, row, shifted     = sample.Ring, sample.Row, sample.Shifted
	withLabels, renumbered = sample.WithLabels, sample.Renumbered
	by, rest               = sample.By, sample.Rest

	front, split = texts.Front, strings.Fields
	upTo         = sample.UpTo
)

// brief and many are a machine, and numbers, of which a text is made where one is asked for alone.
type (
	brief api.Dfa
	many  []int
)

func (d brief) String() string { return texts.BriefDfa(api.Dfa(d)) }
func (l many) String() string {
	return fmt.Sprintf("%d, ", len(l)) + front(fmt.Sprint([]int(l[:min(len(l), 100)])))
}

func ints(l ...int) []int { return l }

// moved: the same blocks, of states that are at other places.
func moved(l, places []int) []int { return quotient.Norm(sample.Moved(l, places)) }

// labelsOf: how many labels the states of a machine have.
func labelsOf(d api.Dfa) int {
	met := map[int]int{}
	for _, label := range d.Label {
		met[label]++
	}
	return len(met)
}

// answered: a machine, and an error, that a call told.
type answered struct {
	d     api.Dfa
	wrong api.Errno
}

func told(d api.Dfa, wrong api.Errno) answered { return answered{d, wrong} }

// holdDfa: a call told just this machine, which may be, and no error.
func holdDfa(t *testing.T, got answered, want api.Dfa, what string, about ...any) {
	t.Helper()
	if got.wrong != api.OK || !dfa.Same(got.d, want) || !dfa.Right(got.d) {
		t.Errorf("%s tells %d, and\n%s, want\n%s", fmt.Sprintf(what, about...), got.wrong, brief(got.d), brief(want))
	}
}

// holdBlocks: a call tells just these blocks.
func holdBlocks(t *testing.T, got, want []int, what string, about ...any) {
	t.Helper()
	if !slices.Equal(got, want) {
		t.Errorf("%s is %s, want %s", fmt.Sprintf(what, about...), many(got), many(want))
	}
}

// holdSplits: of a machine there are so many Splits.
func holdSplits(t *testing.T, d api.Dfa, want int) {
	t.Helper()
	if got := Splits(d); got != want {
		t.Errorf("there are %d splits, want %d, of %s", got, want, brief(d))
	}
}

// holdParted: of a machine that may be Blocks are just these, and there are so many more of them than labels.
func holdParted(t *testing.T, d api.Dfa, want []int) {
	t.Helper()
	holdBlocks(t, Blocks(d), want, "Blocks of %s", brief(d))
	holdSplits(t, d, slices.Max(want)+1-labelsOf(d))
}

// holdAlone: of a machine no two states are alike, and it has none that no word leads to: it is Small of itself.
func holdAlone(t *testing.T, d api.Dfa) {
	t.Helper()
	holdParted(t, d, upTo(0, len(d.Label)))
	holdDfa(t, told(Small(d)), d, "Small of what Small tells")
}

// holdAlike: of a machine that may be just those states are alike that are in one of these blocks: each call tells what it has to.
func holdAlike(t *testing.T, d api.Dfa, want []int) {
	t.Helper()
	holdParted(t, d, want)
	// One behind the other; the states that are left are those to which words lead, and are alike as they were.
	trimmed, wrong := dfa.Trim(d)
	reach := dfa.Reach(d)
	left := quotient.Norm(by(len(reach), func(place int) int { return want[reach[place]] }))
	holdParted(t, trimmed, left)
	small, no := quotient.Of(trimmed, left)
	if wrong != api.OK || no != api.OK {
		t.Errorf("Trim tells %d, and Of %d, of %s", wrong, no, brief(d))
	}
	holdDfa(t, told(Small(d)), small, "Small of %s", brief(d))
	holdAlone(t, small)
}

// holdNone: of a machine that may not be there are no blocks, no splits, and no machine beside the error.
func holdNone(t *testing.T, d api.Dfa) {
	t.Helper()
	holdBlocks(t, Blocks(d), nil, "Blocks of %s, which may not be,", brief(d))
	holdSplits(t, d, -1)
	if x, wrong := Small(d); wrong != api.ErrKind || !dfa.Same(x, api.Dfa{}) {
		t.Errorf("Small tells %d, and %s, of %s, which may not be", wrong, brief(x), brief(d))
	}
}

// holdEverywhere: of a machine just these states are alike, also with each one at another place.
func holdEverywhere(t *testing.T, d api.Dfa, want []int) {
	t.Helper()
	holdAlike(t, d, want)
	all, next := upTo(0, len(want)), sample.Chances()
	for _, places := range [][]int{sample.Turned(all), sample.Shuffled(all, next), sample.Shuffled(all, next), sample.Shuffled(all, next)} {
		holdAlike(t, renumbered(d, places), moved(want, places))
	}
}

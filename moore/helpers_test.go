package moore

import (
	"fmt"
	"math"
	"slices"
	"testing"

	"doublet/api"
	"doublet/quotient"
	"doublet/sample"
	"doublet/texts"
)

const (
	greatest = math.MaxInt
	least    = math.MinInt
	most     = api.MaxStates
)

// Short names for what most machines and blocks are made of.
var (
	quiet, leading, called, rows           = sample.Quiet, sample.Leading, sample.Called, sample.Rows
	withNext, withRow, withLabel, withName = sample.WithNext, sample.WithRow, sample.WithLabel, sample.WithName

	ring, row, shifted     = sample.Ring, sample.Row, sample.Shifted
	withLabels, renumbered = sample.WithLabels, sample.Renumbered
	by, rest, partitions   = sample.By, sample.Rest, sample.Partitions

	front, upTo = texts.Front, sample.UpTo
)

// brief and many are a machine, and numbers, of which a text is made where one is asked for alone.
type (
	brief api.Dfa
	many  []int
)

func (d brief) String() string { return texts.BriefDfa(api.Dfa(d)) }
func (l many) String() string {
	return fmt.Sprintf("%d, ", len(l)) + front(fmt.Sprint([]int(l[:min(len(l), 100)])))
}

func ints(l ...int) []int { return l }

func lists(l ...[]int) [][]int { return l }

// moved: the same blocks, of states that are at other places.
func moved(l, places []int) []int { return quotient.Norm(sample.Moved(l, places)) }

// holdBlocks: a call tells just these blocks.
func holdBlocks(t *testing.T, got, want []int, what string, about ...any) {
	t.Helper()
	if !slices.Equal(got, want) {
		t.Errorf("%s is %s, want %s", fmt.Sprintf(what, about...), many(got), many(want))
	}
}

// holdAfter: of a machine After of a number is just these blocks.
func holdAfter(t *testing.T, d api.Dfa, k int, want []int) {
	t.Helper()
	holdBlocks(t, After(d, k), want, "After of %d, of %s,", k, brief(d))
}

// holdLast: of a machine there are so many Rounds, and Blocks are just these.
func holdLast(t *testing.T, d api.Dfa, rounds int, want []int) {
	t.Helper()
	if got := Rounds(d); got != rounds || got >= len(d.Label) {
		t.Errorf("there are %d rounds, want %d, of %s", got, rounds, brief(d))
	}
	holdBlocks(t, Blocks(d), want, "Blocks of %s", brief(d))
	if !quotient.Stable(d, want) {
		t.Errorf("blocks are not Stable, %s, of %s", many(want), brief(d))
	}
}

// holdTold: of a machine that may be each round tells just these blocks, from those of labels alone on; the last ones are all that is told.
func holdTold(t *testing.T, d api.Dfa, want ...[]int) {
	t.Helper()
	rounds := len(want) - 1
	for _, k := range ints(least, -1<<32, -7, -1) {
		holdAfter(t, d, k, want[0])
	}
	for k := range rounds + 4 {
		holdAfter(t, d, k, want[min(k, rounds)])
	}
	for _, k := range ints(len(d.Label)-1, len(d.Label), 1000, 1<<32, greatest-1, greatest) {
		if k >= rounds {
			holdAfter(t, d, k, want[rounds])
		}
	}
	holdLast(t, d, rounds, want[rounds])
	if rounds > 0 && slices.Equal(want[rounds-1], want[rounds]) {
		t.Errorf("the last of %d rounds tells no more, of %s", rounds, brief(d))
	}
}

// holdNone: of a machine that may not be there are no rounds, and no blocks.
func holdNone(t *testing.T, d api.Dfa) {
	t.Helper()
	for _, k := range ints(least, -1, 0, 1, 2, len(d.Label), greatest) {
		holdAfter(t, d, k, nil)
	}
	if got := Rounds(d); got != -1 {
		t.Errorf("there are %d rounds of %s, which may not be", got, brief(d))
	}
	holdBlocks(t, Blocks(d), nil, "Blocks of %s, which may not be,", brief(d))
}

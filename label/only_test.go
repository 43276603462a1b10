package label

import (
	"slices"
	"strings"
	"testing"

	"doublet/api"
	"doublet/sample"
)

func TestP2203OnlyWrittenOut(t *testing.T) {
	d := ring("b a c", 1, 2, 0, 1, 2, 2)
	holdOnly(t, d, "b", 1, 0, 0, 1, 0, 0)
	holdOnly(t, d, "a", 0, 1, 0, 0, 1, 1)
	// Among Names, and of no state; not among Names.
	holdOnly(t, d, "c", 0, 0, 0, 0, 0, 0)
	for _, name := range split("d A B aa ab _ a_ ba x1 abc " + strings.Repeat("a", 32)) {
		holdOnly(t, d, name, 0, 0, 0, 0, 0, 0)
	}
	// Names of which one is the front of another.
	d = ring("aa a aaa A Aa", 1, 2, 3, 4, 5)
	for at, name := range d.Names {
		labels := make([]int, 5)
		labels[at] = 1
		holdOnly(t, d, name, labels...)
	}
	// Without Names, or without labels.
	for _, d := range []api.Dfa{quiet(3, 2), ring("", 0, 0, 0), ring("a b", 0, 0, 0), ring("b", 0, 0, 0)} {
		holdOnly(t, d, "a", 0, 0, 0)
		holdOnly(t, d, "b", 0, 0, 0)
	}
	// All states, one state, one to which no word comes.
	holdOnly(t, ring("a b", 2, 2, 2), "b", 1, 1, 1)
	holdOnly(t, ring("a b", 2, 2, 2), "a", 0, 0, 0)
	holdOnly(t, ring("b", 1), "b", 1)
	holdOnly(t, with(quiet(3, 256), split("x y"), 0, 1, 2), "y", 0, 0, 1)
}

// Each of many names, the first and the last one among them; Only of what Only tells.
func TestP2203OnlyEachName(t *testing.T) {
	t.Parallel()
	for _, many := range []int{1, 2, 3, 63, 64} {
		d := leading(3*many+5, 3, many)
		for place, name := range d.Names {
			labels := make([]int, len(d.Label))
			for s := place + 1; s < len(labels); s += many + 1 {
				labels[s] = 1
			}
			holdOnly(t, d, name, labels...)
			holdOnly(t, with(d, []string{name}, labels...), name, labels...)
			holdOnly(t, with(d, []string{name}, labels...), "other", make([]int, len(labels))...)
		}
		holdOnly(t, d, "other", make([]int, len(d.Label))...)
	}
}

// What is no name.
func TestP2203OnlyNoName(t *testing.T) {
	t.Parallel()
	machines := []api.Dfa{ring("b a c", 1, 2, 0), ring("b", 1), ring("b", 0, 0), quiet(2, 2)}
	hold := func(name string) {
		t.Helper()
		for _, d := range machines {
			if named32.MatchString(name) {
				want, _ := modelOnly(d, name)
				holdOnly(t, d, name, want.Label...)
			} else {
				holdOnlyError(t, d, name, api.ErrArg)
			}
		}
	}
	for _, name := range sample.WrongNames() {
		if hold(name); named32.MatchString(name) {
			t.Errorf("%q is a name", name)
		}
	}
	for length := range 70 {
		hold(strings.Repeat("b", length))
		hold(strings.Repeat("_", length))
	}
	for b := range 256 {
		one := string([]byte{byte(b)})
		for _, name := range slices.Concat([]string{one}, split("b"+one), []string{"b" + one, one + "b", "b" + one + "b"}) {
			hold(name)
		}
	}
}

package label

import (
	"slices"
	"strings"
	"testing"

	"doublet/api"
	"doublet/dfa"
	"doublet/sample"
)

// As many states, classes and names as there may be.
func TestGreatMachine(t *testing.T) {
	t.Parallel()
	d := leading(most, 256, api.MaxRules)
	names := slices.Sorted(slices.Values(d.Names))
	holdUsed(t, d, names...)
	holdNames(t, d, d.Names, d)

	back := sample.Turned(d.Names)
	want := with(d, back, slices.Clone(d.Label)...)
	for s, label := range d.Label {
		if label > 0 {
			want.Label[s] = api.MaxRules + 1 - label
		}
	}
	holdNames(t, d, back, want)
	holdNamesError(t, d, d.Names[1:], api.ErrNone)
	holdNamesError(t, d, called(api.MaxRules+1), api.ErrArg)

	normal, _ := modelNames(d, names)
	holdDfa(t, told(Norm(d)), normal, "Norm of %s", brief(d))
	for _, name := range []string{d.Names[0], d.Names[63], "other"} {
		only, _ := modelOnly(d, name)
		holdOnly(t, d, name, only.Label...)
	}
	holdDfa(t, told(Plus(d)), d, "Plus of %s", brief(d))
	holdError(t, told(Plus(withLabel(d, 0, 1))), api.ErrBig, "Plus of %s", brief(d))
}

// One state less, with a label at 0.
func TestGreatPlus(t *testing.T) {
	t.Parallel()
	d := leading(most-1, 256, api.MaxRules)
	d.Label[0] = 5
	x, wrong := Plus(d)
	if wrong != api.OK || !dfa.Right(x) || len(x.Label) != most || x.Label[0] != 0 || !slices.Equal(x.Label[1:], d.Label) || x.Of != d.Of {
		t.Fatalf("Plus tells %d, and %s", wrong, brief(x))
	}
	for s, row := range x.Next {
		was := d.Next[max(s-1, 0)]
		for class, to := range row {
			if to != was[class]+1 {
				t.Fatalf("behind %d stands %d, by %d, want %d", s, to, class, was[class]+1)
			}
		}
	}
	holdDfa(t, told(Plus(x)), x, "Plus of what Plus tells")
}

// Lists far longer than there may be names, or states: each call ends soon.
func TestGreatLists(t *testing.T) {
	t.Parallel()
	const far = 1 << 22
	d := ring("b a c", 1, 2, 0)
	holdNamesError(t, d, make([]string, far), api.ErrArg)
	holdNamesError(t, d, slices.Repeat(split("b a c"), far/4), api.ErrArg)
	holdNamesError(t, d, []string{"b", "a", strings.Repeat("c", far)}, api.ErrArg)
	holdOnlyError(t, d, strings.Repeat("c", far), api.ErrArg)
	for _, x := range []api.Dfa{
		with(d, make([]string, far), 0, 0, 0),
		with(d, called(1<<16), 0, 0, 0),
		with(d, d.Names, make([]int, far)...),
		withRow(d, 0, make([]int, far)),
		with(d, []string{strings.Repeat("c", far)}, 0, 0, 0),
	} {
		for _, m := range asked(question{d: x, names: d.Names, name: "a"}).machines() {
			holdError(t, m, api.ErrKind, "a call of %s", brief(x))
		}
		holdUsed(t, x)
	}
}

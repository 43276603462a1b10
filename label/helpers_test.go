package label

import (
	"fmt"
	"slices"
	"strings"
	"testing"

	"doublet/api"
	"doublet/dfa"
	"doublet/sample"
	"doublet/texts"
)

const most = api.MaxStates

// Short names for what most machines are made of.
var (
	quiet, leading, called, rows           = sample.Quiet, sample.Leading, sample.Called, sample.Rows
	withNext, withRow, withLabel, withName = sample.WithNext, sample.WithRow, sample.WithLabel, sample.WithName
	ring                                   = sample.Ring

	front, split = texts.Front, strings.Fields
	upTo         = sample.UpTo
)

// brief and quoted are a machine, and texts, of which a text is made where one is asked for alone.
type (
	brief  api.Dfa
	quoted []string
)

func (d brief) String() string { return texts.BriefDfa(api.Dfa(d)) }
func (l quoted) String() string {
	return fmt.Sprintf("%d, ", len(l)) + front(fmt.Sprintf("%q", []string(l[:min(len(l), 70)])))
}

// with: the same machine with other names and labels; all else lies in the same memory.
func with(d api.Dfa, names []string, labels ...int) api.Dfa {
	d.Names, d.Label = names, labels
	return d
}

// holdTexts: a call tells just these texts, in this order.
func holdTexts(t *testing.T, got, want []string, what string, about ...any) {
	t.Helper()
	if !slices.Equal(got, want) {
		t.Errorf("%s is %s, want %s", fmt.Sprintf(what, about...), quoted(got), quoted(want))
	}
}

// holdUsed: of a machine just these names are Used.
func holdUsed(t *testing.T, d api.Dfa, want ...string) {
	t.Helper()
	holdTexts(t, Used(d), want, "Used of %s", brief(d))
}

// holdUnion: of lists Union tells just these texts.
func holdUnion(t *testing.T, want []string, l ...[]string) {
	t.Helper()
	holdTexts(t, Union(l...), want, "Union of %d lists", len(l))
}

// answered: a machine, and an error, that a call told.
type answered struct {
	d     api.Dfa
	wrong api.Errno
}

func told(d api.Dfa, wrong api.Errno) answered { return answered{d, wrong} }

// holdDfa: a call told just this machine, which may be, and no error.
func holdDfa(t *testing.T, got answered, want api.Dfa, what string, about ...any) {
	t.Helper()
	if got.wrong != api.OK || !dfa.Same(got.d, want) || !dfa.Right(got.d) {
		t.Errorf("%s tells %d, and\n%s, want\n%s", fmt.Sprintf(what, about...), got.wrong, brief(got.d), brief(want))
	}
}

// holdError: a call told just this error, and an empty machine beside it.
func holdError(t *testing.T, got answered, want api.Errno, what string, about ...any) {
	t.Helper()
	if got.wrong != want || !dfa.Same(got.d, api.Dfa{}) {
		t.Errorf("%s tells %d, want %d, and %s", fmt.Sprintf(what, about...), got.wrong, want, brief(got.d))
	}
}

// holdNames and holdNamesError: of a machine and names Names tells just this machine, or this error.
func holdNames(t *testing.T, d api.Dfa, l []string, want api.Dfa) {
	t.Helper()
	holdDfa(t, told(Names(d, l)), want, "Names, with %s, of %s", quoted(l), brief(d))
}

func holdNamesError(t *testing.T, d api.Dfa, l []string, want api.Errno) {
	t.Helper()
	holdError(t, told(Names(d, l)), want, "Names, with %s, of %s", quoted(l), brief(d))
}

// holdNorm: of a machine Norm tells just this one, and of that one the same.
func holdNorm(t *testing.T, d, want api.Dfa) {
	t.Helper()
	holdDfa(t, told(Norm(d)), want, "Norm of %s", brief(d))
	holdDfa(t, told(Norm(want)), want, "Norm of what Norm tells, %s,", brief(want))
}

// holdOnly and holdOnlyError: of a machine and a name Only tells a machine with just these labels, or this error.
func holdOnly(t *testing.T, d api.Dfa, name string, labels ...int) {
	t.Helper()
	holdDfa(t, told(Only(d, name)), with(d, []string{name}, labels...), "Only, of %q, of %s", name, brief(d))
}

func holdOnlyError(t *testing.T, d api.Dfa, name string, want api.Errno) {
	t.Helper()
	holdError(t, told(Only(d, name)), want, "Only, of %q, of %s", front(name), brief(d))
}

// holdPlus: of a machine Plus tells just this one, and of that one the same.
func holdPlus(t *testing.T, d, want api.Dfa) {
	t.Helper()
	holdDfa(t, told(Plus(d)), want, "Plus of %s", brief(d))
	holdDfa(t, told(Plus(want)), want, "Plus of what Plus tells, %s,", brief(want))
}

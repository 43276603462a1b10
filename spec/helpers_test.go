package spec

import (
	"fmt"
	"regexp"
	"slices"
	"strconv"
	"strings"
	"testing"

	"doublet/api"
	"doublet/lexeme"
	"doublet/parse"
	"doublet/sample"
	"doublet/show"
	"doublet/tree"
)

func named(name string, x api.Node) api.Rule { return api.Rule{Name: name, Body: x} }
func bad(kind api.Errno, at int) api.Bad     { return api.Bad{Kind: kind, At: at} }

// Short names for what most trees and rules are made of.
var (
	a, b, c, e = sample.A, sample.B, sample.C, sample.Empty
	of, rep    = sample.Of, sample.Rep

	instead = sample.WithRule
)

// brief: the front of what something is written as.
func brief(of any) string {
	text := fmt.Sprint(of)
	if len(text) > 300 {
		text = text[:300] + " .."
	}
	return text
}

// numbered: so many rules, named in a row, each of an a.
func numbered(n int) []api.Rule {
	l := make([]api.Rule, n)
	for i := range l {
		l[i] = named("r"+strconv.Itoa(i), a())
	}
	return l
}

// numberedText: the text of numbered.
func numberedText(n int) string {
	text := ""
	for i := range n {
		text += "r" + strconv.Itoa(i) + ":a\n"
	}
	return text
}

var name = regexp.MustCompile(`^[A-Za-z_][A-Za-z0-9_]*`)

// fault: what is wrong with a line, by the names and the number of the rules ahead; zero: nothing.
func fault(line string, at int, l []api.Rule) (api.Rule, api.Bad) {
	if len(l) == 64 {
		return api.Rule{}, bad(api.ErrMany, at)
	}
	front := name.FindString(line)
	if front == "" {
		return api.Rule{}, bad(api.ErrName, at)
	}
	if len(front) >= 33 {
		return api.Rule{}, bad(api.ErrName, at+32)
	}
	expression, found := strings.CutPrefix(line, front+":")
	if !found {
		return api.Rule{}, bad(api.ErrColon, at+len(front))
	}
	if slices.ContainsFunc(l, func(x api.Rule) bool { return x.Name == front }) {
		return api.Rule{}, bad(api.ErrTwice, at)
	}
	x, wrong := parse.Text([]byte(expression))
	if wrong != (api.Bad{}) {
		return api.Rule{}, bad(wrong.Kind, at+len(line)-len(expression)+wrong.At)
	}
	return named(front, x), api.Bad{}
}

// model: Read, by all lines at once.
func model(text string) ([]api.Rule, api.Bad) {
	if len(text) > 65536 {
		return nil, bad(api.ErrLong, 65536)
	}
	var l []api.Rule
	at := 0
	for _, line := range strings.Split(text, "\n") {
		if line != "" && !strings.HasPrefix(line, "#") {
			x, wrong := fault(line, at, l)
			if wrong != (api.Bad{}) {
				return nil, wrong
			}
			l = append(l, x)
		}
		at += len(line) + 1
	}
	return l, api.Bad{}
}

// alike: Same, written out.
func alike(x, y []api.Rule) bool {
	if len(x) != len(y) {
		return false
	}
	for i := range x {
		if x[i].Name != y[i].Name || !tree.Same(x[i].Body, y[i].Body) {
			return false
		}
	}
	return true
}

// hold: Read of a text tells rules and a fault.
func hold(t *testing.T, text string, want []api.Rule, wrong api.Bad) {
	t.Helper()
	l, got := Read([]byte(text))
	if !alike(l, want) || got != wrong {
		t.Errorf("Read(%.200q) = %s, %v, want %s, %v", text, brief(l), got, brief(want), wrong)
	}
	if wrong != (api.Bad{}) && l != nil {
		t.Errorf("Read(%.200q) tells rules beside %v", text, wrong)
	}
	if !Right(l) {
		t.Errorf("Read(%.200q) tells rules that may not be", text)
	}
}

// holdModel holds Read of a text against the model, and tells what is wrong.
func holdModel(t *testing.T, text string) api.Bad {
	t.Helper()
	want, wrong := model(text)
	hold(t, text, want, wrong)
	return wrong
}

// holdSays: a text is read as rules, as the model has it.
func holdSays(t *testing.T, text string, want ...api.Rule) {
	t.Helper()
	hold(t, text, want, api.Bad{})
	if wrong := holdModel(t, text); wrong != (api.Bad{}) {
		t.Errorf("the model tells %v of %.200q", wrong, text)
	}
}

// holdWrong: a text is told a fault, as the model has it.
func holdWrong(t *testing.T, text string, kind api.Errno, at int) {
	t.Helper()
	hold(t, text, nil, bad(kind, at))
	if wrong := holdModel(t, text); wrong != bad(kind, at) {
		t.Errorf("the model tells %v of %.200q, want %v", wrong, text, bad(kind, at))
	}
}

// holdText: Text of rules is a text, or an error.
func holdText(t *testing.T, l []api.Rule, want string, wrong api.Errno) {
	t.Helper()
	if text, err := Text(l); text != want || err != wrong {
		t.Errorf("Text(%s) = %.200q, %d, want %.200q, %d", brief(l), text, err, want, wrong)
	}
	if Right(l) != (wrong != api.ErrKind) {
		t.Errorf("Right(%s) is %t", brief(l), Right(l))
	}
}

// holdBack: rules that have a text come back from it, and so does the text from them.
func holdBack(t *testing.T, l []api.Rule) {
	t.Helper()
	text, err := Text(l)
	if err != api.OK {
		t.Errorf("Text(%s) tells %d", brief(l), err)
		return
	}
	var want []api.Rule
	for _, x := range l {
		want = append(want, named(x.Name, sample.Filled(x.Body)))
	}
	holdSays(t, text, want...)
	holdText(t, want, text, api.OK)
}

// written: the text of rules that may be and have one, line by line.
func written(t *testing.T, l []api.Rule) string {
	t.Helper()
	text := ""
	for _, x := range l {
		body, err := show.Text(x.Body)
		if err != api.OK {
			t.Fatalf("show.Text tells %d", err)
		}
		text += x.Name + ":" + body + "\n"
	}
	return text
}

// called: a name of n bytes that ends with a number's digits, for which it has room.
func called(n, number int) string {
	digits := strconv.Itoa(number)
	return strings.Repeat("N_z9"[:1+number%4], n)[:n-len(digits)] + digits
}

// someRules: so many rules that may be, with all kinds of names and trees.
func someRules(many int, next func(int) int) []api.Rule {
	l := make([]api.Rule, many)
	for i := range l {
		l[i] = named(called(4+next(29), i), sample.Grown(1+next(20), next))
	}
	return l
}

// expression: the text of a right expression, with about n lexemes.
func expression(t *testing.T, next func(int) int, n int) string {
	t.Helper()
	text, err := lexeme.Join(sample.Wordy(next(n), 1+next(9), next))
	if err != api.OK {
		t.Fatalf("Join tells %d", err)
	}
	return text
}

// someLines: right lines with so many rules in all, named from a number on, and lines between that say nothing.
func someLines(t *testing.T, next func(int) int, from, many int) []string {
	t.Helper()
	var l []string
	for i := range many {
		for next(3) == 0 {
			l = append(l, []string{"", "#", "##", "#a:b", "#a:(", "# \x00\xff\r"}[next(6)])
		}
		l = append(l, called(4+next(29), from+i)+":"+expression(t, next, 12))
	}
	return l
}

package spec

import (
	"bytes"
	"slices"
	"strings"
	"testing"

	"doublet/api"
	"doublet/sample"
	"doublet/show"
	"doublet/tree"
)

// whatever: lists of rules, such as may be and others.
func whatever(t *testing.T) [][]api.Rule {
	next := sample.Chances()
	l := [][]api.Rule{nil, {}, numbered(1), numbered(2), numbered(64), numbered(65), {{}}, {named("x", a()), named("x", a())}, {named("x", of(6, e())), named("9", a())}, someRules(5, next), someRules(64, next)}
	for _, x := range sample.MayNot() {
		l = append(l, []api.Rule{named("x", a()), named("y", x)})
	}
	for _, x := range append(textless(t)[:7], sample.Beside(4, 1024, sample.Sized(66)), sample.Nested(4, 64, true)) {
		l = append(l, []api.Rule{named("x", x), named("y", e())})
	}
	return l
}

func TestP901ArgumentsStay(t *testing.T) {
	for _, l := range whatever(t) {
		some, others := sample.RoomyRules(l), sample.RoomyRules(l)
		kept := sample.DumpRules(some)
		Right(some)
		Text(some)
		if !Same(some, others) {
			t.Errorf("rules are not the same as they are: %s", brief(l))
		}
		if sample.DumpRules(some) != kept || sample.DumpRules(others) != kept {
			t.Errorf("%.300s became %.300s and %.300s", kept, sample.DumpRules(some), sample.DumpRules(others))
		}
		if Right(some) != Right(l) {
			t.Errorf("Right(%s) hangs on the room behind", brief(l))
		}
		want, wrong := Text(l)
		holdText(t, some, want, wrong)
	}
	texts := []string{"", "\n", "x:a", "x:a\n", "x:(a|b)*\ny:\n#z:", "9", "x:a\nx:b", "x:(", "x", numberedText(65), strings.Repeat("#", 65536), strings.Repeat("#", 65537)}
	for _, text := range texts {
		want, wrong := model(text)
		for _, behind := range []string{"\n", ":b", "a", "#", ")", "\nx:a\n"} {
			room := []byte(text + behind)
			l, got := Read(room[:len(text)])
			if !alike(l, want) || got != wrong {
				t.Errorf("Read(%.60q) with %q in the room behind = %s, %v, want %s, %v", text, behind, brief(l), got, brief(want), wrong)
			}
			if string(room) != text+behind {
				t.Errorf("Read made %.60q of %.60q", room, text+behind)
			}
		}
	}
}

func TestP901NewMemory(t *testing.T) {
	for _, text := range []string{"x:a", "x:(a|b)*\ny:ab{2,3}\nz:", "x:ab\ny:ab\n", "#\nx_1:((a|b)c|)*\n\nname:[a-z][0-9]+\n", numberedText(64), "x:" + strings.Repeat("a", 1024) + "\ny:" + strings.Repeat("(a|", 64) + strings.Repeat(")", 64)} {
		want, _ := model(text)
		given := []byte(text)
		first, _ := Read(given)
		second, _ := Read(given)
		var bodies []api.Node
		for _, x := range slices.Concat(first, second) {
			bodies = append(bodies, x.Body)
		}
		if sample.Shared(bodies...) {
			t.Errorf("in the answers to %.60q a node lies in two lists", text)
		}
		copy(given, bytes.Repeat([]byte("*"), len(given)))
		if !alike(first, want) || !alike(second, want) {
			t.Errorf("the answers to %.60q became %s, %s", text, brief(first), brief(second))
		}
		written, _ := Text(first)
		sample.ScribbleRules(first)
		if !alike(second, want) {
			t.Errorf("the second answer to %.60q became %s", text, brief(second))
		}
		holdSays(t, written, want...)
		holdSays(t, text, want...)
	}
}

func TestP901OneAnswerAndTheNext(t *testing.T) {
	right := "x:(a|b)*c{2}\ny:\n"
	want, _ := model(right)
	others := []string{"", "x:a\nx:b", "y:(", "x:((((*", "9", numberedText(65), "z:a\ny:b\nx:[", strings.Repeat("\n", 70000)}
	for _, text := range others {
		holdModel(t, text)
		holdSays(t, right, want...)
		holdText(t, append(want, want...), "", api.ErrKind)
		holdText(t, want, right, api.OK)
	}
	done := make(chan bool)
	for i := range 8 {
		go func() {
			for n := range 200 {
				l, wrong := Read([]byte(right))
				m, fault := Read([]byte(others[(i+n)%6]))
				text, err := Text(want)
				expected, known := model(others[(i+n)%6])
				if !Same(l, want) || wrong != (api.Bad{}) || text != right || err != api.OK || !alike(m, expected) || fault != known {
					t.Errorf("at once come %s, %v, %q, %d, %s, %v", brief(l), wrong, text, err, brief(m), fault)
					break
				}
			}
			done <- true
		}()
	}
	for range 8 {
		<-done
	}
}

// Rules of whatever there is: nothing panics, and what may not be is told.
func TestP901WhateverIsHandedIn(t *testing.T) {
	next := sample.Chances()
	names := []string{"", "x", "y", "X9", "_", "9", "a b", "\x00", "x\n", ":", "#", strings.Repeat("z", 32), strings.Repeat("z", 33), strings.Repeat("z", 1<<16)}
	var made func(deep int) api.Node
	made = func(deep int) api.Node {
		x := sample.Grown(1+next(6), next)
		if next(4) == 0 {
			x = sample.Spoilt(x, next)
		}
		if deep > 0 && len(x.Kids) > 0 {
			x.Kids[next(len(x.Kids))] = made(deep - 1)
		}
		return x
	}
	right := 0
	for range 20000 {
		l := make([]api.Rule, next(4))
		may := true
		for i := range l {
			l[i] = named(names[next(len(names))], made(next(4)))
			if next(3) > 0 {
				l[i].Name = called(4+next(29), i)
			}
			legal := len(l[i].Name) <= 32 && name.FindString(l[i].Name) == l[i].Name && l[i].Name != ""
			twice := slices.ContainsFunc(l[:i], func(x api.Rule) bool { return x.Name == l[i].Name })
			may = may && legal && !twice && tree.Right(l[i].Body)
		}
		if Right(l) != may {
			t.Errorf("Right(%s) is %t", brief(l), !may)
		}
		if may {
			right++
			holdBack(t, l)
		} else {
			holdText(t, l, "", api.ErrKind)
		}
		if !Same(l, sample.RoomyRules(l)) {
			t.Errorf("rules are not the same as they are: %s", brief(l))
		}
	}
	if right < 5000 {
		t.Errorf("only %d lists of rules may be", right)
	}
}

// Lists, names, texts and trees that are huge.
func TestP901Huge(t *testing.T) {
	many := slices.Repeat([]api.Rule{named("x", a())}, 1<<18)
	holdText(t, many, "", api.ErrKind)
	holdSame(t, many, slices.Clone(many), true)
	holdSame(t, many, many[1:], false)
	long := strings.Repeat("x", 1<<24)
	holdText(t, []api.Rule{named(long, a())}, "", api.ErrKind)
	holdWrong(t, long, api.ErrLong, 65536)
	holdWrong(t, strings.Repeat("\n", 1<<24), api.ErrLong, 65536)
	for _, x := range []api.Node{sample.Chain(1 << 16), sample.Beside(4, 1<<18, a()), sample.Nested(4, 1<<15, true), sample.Nested(5, 1<<15, false)} {
		holdText(t, []api.Rule{named("x", x)}, "", api.ErrKind)
		holdSame(t, []api.Rule{named("x", x)}, []api.Rule{named("x", tree.Copy(x))}, true)
	}
	// Both Kids of a node are one and the same memory: few nodes are made, and very many met.
	x := a()
	for range 29 {
		x = of(4, x, x)
	}
	holdText(t, []api.Rule{named("x", x)}, "", api.ErrKind)
	// The most that may be, of all that has a text.
	l := numbered(64)
	for i := range l {
		l[i].Body = tree.Word(slices.Repeat([]byte("a"), 1000)...)
	}
	text, err := Text(l)
	if err != api.OK || len(text) < 64000 {
		t.Errorf("Text has %d bytes, %d", len(text), err)
	}
	if body, _ := show.Text(l[63].Body); !strings.HasSuffix(text, "r63:"+body+"\n") {
		t.Errorf("Text ends with %q", text[len(text)-20:])
	}
	holdBack(t, l)
}

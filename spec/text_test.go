package spec

import (
	"slices"
	"strings"
	"testing"

	"doublet/api"
	"doublet/sample"
	"doublet/sets"
	"doublet/show"
	"doublet/tree"
)

func TestP905Text(t *testing.T) {
	holdText(t, nil, "", api.OK)
	holdText(t, []api.Rule{}, "", api.OK)
	holdText(t, []api.Rule{named("x", a())}, "x:a\n", api.OK)
	holdText(t, []api.Rule{named("x", e())}, "x:\n", api.OK)
	holdText(t, []api.Rule{named("x", of(1))}, "x:[^\\x00-\\xff]\n", api.OK)
	holdText(t, []api.Rule{named("ab_1", of(5, a(), b())), named("B", e())}, "ab_1:a|b\nB:\n", api.OK)
	holdText(t, []api.Rule{named("B", e()), named("ab_1", of(5, a(), b()))}, "B:\nab_1:a|b\n", api.OK)
	for s, x := range map[string]api.Node{
		"()*": of(6, e()), "(a|b)a*": of(4, of(5, a(), b()), of(6, a())), `\n`: tree.Bytes(sets.Of(10)), `.\n`: tree.Cat(tree.Bytes(sets.Not(sets.Of(10))), tree.Bytes(sets.Of(10))), ":": tree.Word(':'), "#": tree.Word('#'), `\x20a`: tree.Word(' ', 'a'), `\x00\xff\r`: tree.Word(0, 255, 13), `[\n:]{2,}`: rep(tree.Bytes(sets.Of(10, ':')), 2, -1),
	} {
		for _, name := range []string{"x", "_", "Z9", strings.Repeat("x", 32)} {
			holdText(t, []api.Rule{named(name, x)}, name+":"+s+"\n", api.OK)
			holdText(t, []api.Rule{named("y", b()), named(name, x), named("z", x)}, "y:b\n"+name+":"+s+"\nz:"+s+"\n", api.OK)
		}
	}
}

func TestP905Many(t *testing.T) {
	for _, n := range []int{1, 2, 63, 64} {
		holdText(t, numbered(n), numberedText(n), api.OK)
		long := ""
		l := numbered(n)
		for i := range l {
			l[i].Name = called(32, i)
			long += called(32, i) + ":a\n"
		}
		holdText(t, l, long, api.OK)
		if len(long) != 35*n {
			t.Errorf("the text has %d bytes", len(long))
		}
	}
	holdText(t, numbered(65), "", api.ErrKind)
	holdText(t, numbered(100), "", api.ErrKind)
}

// textless: trees that may be, but have no text.
func textless(t *testing.T) []api.Node {
	return []api.Node{sample.Beside(4, 1026, a()), sample.Beside(5, 1027, e()), sample.Beside(4, 514, e()), sample.Chain(1025), sample.Chain(4096), sample.Beside(4, 4096, a()), sample.Nested(5, 66, true), sample.Nested(4, 66, true), of(6, sample.Nested(5, 65, true)), sample.Beside(4, 1025, sample.Sized(65)), sample.Nested(5, 2047, true)}
}

func TestP905NoTextOfABody(t *testing.T) {
	for _, x := range textless(t) {
		if _, err := show.Text(x); err != api.ErrLong || !tree.Right(x) {
			t.Fatalf("show.Text(%s) tells %d", brief(x), err)
		}
		for _, n := range []int{1, 2, 3, 64} {
			for _, at := range []int{0, n / 2, n - 1} {
				l := instead(numbered(n), at, named("x", x))
				holdText(t, l, "", api.ErrLong)
				holdText(t, instead(l, (at+1)%n, named("y", x)), "", api.ErrLong)
				// What may not be is told ahead of what has no text, on either side of it.
				if n > 1 {
					holdText(t, instead(l, (at+1)%n, named("y", of(4))), "", api.ErrKind)
					holdText(t, instead(l, (at+n-1)%n, named("", a())), "", api.ErrKind)
					holdText(t, instead(l, (at+1)%n, named("x", a())), "", api.ErrKind)
				}
				holdText(t, instead(l, at, named("x y", x)), "", api.ErrKind)
			}
		}
		l := numbered(65)
		l[3].Body = x
		holdText(t, l, "", api.ErrKind)
	}
	// As many lexemes, and as deep, as may be.
	for _, x := range []api.Node{sample.Beside(4, 1025, a()), sample.Beside(5, 1026, e()), sample.Beside(4, 513, e()), sample.Chain(1024), sample.Nested(5, 65, true), sample.Nested(4, 65, true), of(6, sample.Nested(5, 64, true))} {
		l := []api.Rule{named("y", b()), named("x", x)}
		holdText(t, l, written(t, l), api.OK)
		holdBack(t, l)
	}
}

func TestP905NotRight(t *testing.T) {
	for _, n := range []int{1, 3, 64} {
		for _, at := range []int{0, n / 2, n - 1} {
			for _, x := range sample.MayNot() {
				holdText(t, instead(numbered(n), at, named("x", x)), "", api.ErrKind)
				holdText(t, instead(numbered(n), at, named("x", of(6, of(5, a(), x, b())))), "", api.ErrKind)
			}
			for _, name := range []string{"", "9", "a b", "a:b", ":", "#", "a\n", "\n", "é", strings.Repeat("a", 33)} {
				holdText(t, instead(numbered(n), at, named(name, a())), "", api.ErrKind)
			}
			holdText(t, instead(numbered(n), at, named("x", sample.Chain(4097))), "", api.ErrKind)
			if n > 1 {
				holdText(t, instead(numbered(n), at, named(numbered(n)[(at+1)%n].Name, b())), "", api.ErrKind)
			}
		}
	}
}

// weighing: 64 rules whose text has so many bytes, at least 64 times 32 of them.
func weighing(t *testing.T, n int) []api.Rule {
	t.Helper()
	l := make([]api.Rule, 64)
	for i := range l {
		// A name of 20 bytes, the colon and the 10; the text of the tree is what is left.
		left := n/(64-i) - 22
		n -= left + 22
		l[i] = named(called(20, i), tree.Word(slices.Repeat([]byte("a"), left)...))
	}
	return l
}

func TestP905MaxText(t *testing.T) {
	for extra := -3; extra <= 3; extra++ {
		n := 65536 + extra
		// One long rule, and many.
		class := sample.Sized(64)
		for _, l := range [][]api.Rule{
			weighing(t, n),
			{named("x", of(4, append(slices.Repeat([]api.Node{class}, 1023), sample.Sized(61+extra))...))},
			{named("y", b()), named("x", of(4, append(slices.Repeat([]api.Node{class}, 1023), sample.Sized(57+extra))...))},
			{named("x", of(4, append([]api.Node{sample.Sized(57 + extra)}, slices.Repeat([]api.Node{class}, 1023)...)...)), named("y", b())},
			{named("x", sample.Beside(4, 513, class)), named("y", sample.Beside(4, 512, class)), named(strings.Repeat("z", 20+extra), sample.Sized(36))},
		} {
			want := written(t, l)
			if len(want) != n {
				t.Fatalf("the text has %d bytes, and not %d", len(want), n)
			}
			if extra > 0 {
				holdText(t, l, "", api.ErrLong)
				hold(t, want, nil, bad(api.ErrLong, 65536))
			} else {
				holdText(t, l, want, api.OK)
				holdBack(t, l)
			}
			// The other error is told ahead, wherever it stands.
			for _, at := range []int{0, len(l) / 2, len(l) - 1} {
				holdText(t, instead(l, at, named("-", l[at].Body)), "", api.ErrKind)
				holdText(t, instead(l, at, named("w", of(6))), "", api.ErrKind)
			}
			if len(l) > 1 {
				holdText(t, instead(l, 0, named(l[1].Name, l[0].Body)), "", api.ErrKind)
			}
		}
	}
	// Far more bytes: each body has a text.
	l := numbered(64)
	for i := range l {
		l[i].Body = sample.Beside(4, 1024, sample.Sized(60))
	}
	holdText(t, l, "", api.ErrLong)
	// A body that has just MaxText bytes has a text, but no room for its name.
	full := of(4, slices.Repeat([]api.Node{sample.Sized(64)}, 1024)...)
	if text, err := show.Text(full); len(text) != 65536 || err != api.OK {
		t.Fatalf("show.Text tells %d bytes, %d", len(text), err)
	}
	holdText(t, []api.Rule{named("x", full)}, "", api.ErrLong)
	holdText(t, []api.Rule{named("x", full), named("y", full)}, "", api.ErrLong)
}

func TestP906EachKind(t *testing.T) {
	x := of(4, of(1), of(5, of(6, of(1)), of(7, of(8, rep(of(1), 2, 3))), e(), api.Node{Kind: 3}, tree.Bytes(sets.All())))
	holdBack(t, nil)
	for _, y := range []api.Node{of(1), {Kind: 3}, e(), a(), x, of(6, x), of(5, x, x)} {
		holdBack(t, []api.Rule{named("x", y)})
		holdBack(t, []api.Rule{named("x", y), named("y", of(1)), named("z", y)})
		for place := range tree.Size(y) {
			holdBack(t, []api.Rule{named("w", a()), named("x", sample.With(y, place, of(1)))})
		}
	}
	for n := range 256 {
		s := tree.Bytes(sets.Of(byte(n)))
		holdBack(t, []api.Rule{named("x", s), named("y", tree.Bytes(sets.Not(sets.Of(byte(n))))), named("z", of(4, s, s, of(6, s)))})
	}
	l, err := Read([]byte("x:[^\\x00-\\xff]\n"))
	if err != (api.Bad{}) || len(l) != 1 || !Same(l, []api.Rule{named("x", api.Node{Kind: 3})}) || Same(l, []api.Rule{named("x", of(1))}) {
		t.Errorf("what says no word is read as %s, %v", brief(l), err)
	}
}

func TestP906RandomRules(t *testing.T) {
	next := sample.Chances()
	for i := range 3000 {
		many := next(10)
		if i%30 == 0 {
			many = 60 + next(5)
		}
		l := someRules(many, next)
		holdBack(t, l)
		holdText(t, l, written(t, l), api.OK)
		if t.Failed() {
			return
		}
	}
}

func TestP906RandomTexts(t *testing.T) {
	next := sample.Chances()
	for i := range 3000 {
		many := next(10)
		if i%30 == 0 {
			many = 60 + next(5)
		}
		read := strings.Join(someLines(t, next, 0, many), "\n") + "\n"[:next(2)]
		l, wrong := Read([]byte(read))
		if len(l) != many || wrong != (api.Bad{}) {
			t.Fatalf("Read(%q) = %s, %v", read, brief(l), wrong)
		}
		text, err := Text(l)
		if err != api.OK {
			t.Fatalf("Text of Read(%q) tells %d", read, err)
		}
		holdSays(t, text, l...)
		holdText(t, l, text, api.OK)
		if back, _ := Read([]byte(text)); !Same(l, back) {
			t.Errorf("Read(%q) is not the rules of %q", text, read)
		}
		if t.Failed() {
			return
		}
	}
}

// holdParts: texts of right lines, one behind the other, say the rules of the one and those of the other.
func holdParts(t *testing.T, one, other []string) {
	t.Helper()
	first, second := strings.Join(one, "\n"), strings.Join(other, "\n")
	if len(one) > 0 {
		first += "\n"
	}
	l, wrong := Read([]byte(first))
	m, fault := Read([]byte(second))
	if wrong != (api.Bad{}) || fault != (api.Bad{}) {
		t.Fatalf("Read(%q), Read(%q) tell %v, %v", first, second, wrong, fault)
	}
	holdSays(t, first+second, append(l, m...)...)
	holdSays(t, first+second+"\n", append(l, m...)...)
	holdSays(t, first+"\n#\n"+second, append(l, m...)...)
}

func TestP907Parts(t *testing.T) {
	next := sample.Chances()
	for i := range 2000 {
		many, more := next(8), next(8)
		if i%20 == 0 {
			many = next(65)
			more = 64 - many
		}
		one, other := someLines(t, next, 0, many), someLines(t, next, many, more)
		holdParts(t, one, other)
		if t.Failed() {
			return
		}
	}
}

// Without a 10 between, the first line of the one is the end of the last line of the other.
func TestP907NoEndBetween(t *testing.T) {
	next := sample.Chances()
	right := 0
	for range 2000 {
		one, other := someLines(t, next, 0, 1+next(5)), someLines(t, next, 5, 1+next(5))
		joined := append(slices.Clone(one[:len(one)-1]), one[len(one)-1]+other[0])
		text := strings.Join(one, "\n") + strings.Join(other, "\n")
		want, wrong := model(strings.Join(append(joined, other[1:]...), "\n"))
		hold(t, text, want, wrong)
		if wrong == (api.Bad{}) {
			right++
		}
	}
	if right < 500 {
		t.Errorf("only %d texts are right", right)
	}
	holdSays(t, "x:a"+"y:b", named("x", tree.Word([]byte("ay:b")...)))
	holdSays(t, "x:a"+"\ny:b", named("x", a()), named("y", b()))
	holdSays(t, "#x"+"y:b")
	holdSays(t, "x:"+"#y:b", named("x", tree.Word([]byte("#y:b")...)))
}

// A name that is in both, and too many rules.
func TestP907NotBoth(t *testing.T) {
	next := sample.Chances()
	for range 500 {
		one, other := someLines(t, next, 0, 1+next(6)), someLines(t, next, 10, next(6))
		rules := slices.DeleteFunc(slices.Clone(one), func(line string) bool { return line == "" || line[0] == '#' })
		at := next(len(other) + 1)
		name, _, _ := strings.Cut(rules[next(len(rules))], ":")
		other = slices.Insert(other, at, name+":"+expression(t, next, 9))
		front := strings.Join(append(one, other[:at]...), "\n") + "\n"
		holdWrong(t, front+strings.Join(other[at:], "\n"), api.ErrTwice, len(front))
	}
	for _, n := range []int{0, 1, 32, 63, 64} {
		one, other := someLines(t, next, 0, n), someLines(t, next, n, 64-n)
		holdParts(t, one, other)
		l := append(one, other...)
		last := someLines(t, next, 64, 1)
		front := strings.Join(append(l, last[:len(last)-1]...), "\n") + "\n"
		holdWrong(t, front+last[len(last)-1], api.ErrMany, len(front))
		holdWrong(t, front+last[len(last)-1]+"\n", api.ErrMany, len(front))
	}
}

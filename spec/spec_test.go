package spec

import (
	"slices"
	"strings"
	"testing"

	"doublet/api"
	"doublet/sample"
	"doublet/sets"
	"doublet/tree"
)

// letters, digits: what a Name may begin with, and what else may stand in it.
const (
	letters = "abcdefghijklmnopqrstuvwxyzABCDEFGHIJKLMNOPQRSTUVWXYZ_"
	digits  = "0123456789"
)

func holdName(t *testing.T, s string, want bool) {
	t.Helper()
	if got := Name(s); got != want {
		t.Errorf("Name(%.60q) of %d bytes is %t", s, len(s), got)
	}
	if got := Right([]api.Rule{named(s, a())}); got != want {
		t.Errorf("Right of a rule named %.60q is %t", s, got)
	}
}

func TestP902NameEachByte(t *testing.T) {
	for n := range 256 {
		s := string([]byte{byte(n)})
		first := strings.Contains(letters, s)
		other := strings.Contains(letters+digits, s)
		holdName(t, s, first)
		for _, more := range []string{"a", "_", "0", "Zz9", strings.Repeat("x", 31)} {
			holdName(t, s+more, first)
		}
		for _, ahead := range []string{"a", "_", "Z0", strings.Repeat("x", 31)} {
			holdName(t, ahead+s, other)
		}
		for _, behind := range []string{"b", "_", "0", strings.Repeat("y", 29)} {
			holdName(t, "a"+s+behind, other)
			holdName(t, "a9"+s+behind[1:], other)
		}
		for at := 1; at < 32; at++ {
			holdName(t, strings.Repeat("q", at)+s+strings.Repeat("7", 31-at), other)
		}
	}
}

func TestP902NameLengths(t *testing.T) {
	for _, unit := range []string{"a", "_", "Z", "a9", "_0x"} {
		long := strings.Repeat(unit, 1<<20)
		holdName(t, "", false)
		for n := 1; n <= 80; n++ {
			holdName(t, long[:n], n <= 32)
		}
		for _, n := range []int{255, 256, 257, 65536, 1 << 20} {
			holdName(t, long[:n], false)
		}
	}
	for _, s := range []string{"é", "aé", "名", "a\x00", "\x00", "a\n", "\n", " a", "a ", "a:", ":", "a-b", "a.b", "#", "#a", "a#"} {
		holdName(t, s, false)
	}
}

func holdRight(t *testing.T, l []api.Rule, want bool) {
	t.Helper()
	if got := Right(l); got != want {
		t.Errorf("Right(%s) is %t", brief(l), got)
	}
	text, err := Text(l)
	if (err == api.ErrKind) == want || !want && text != "" {
		t.Errorf("Text(%s) = %.60q, %d", brief(l), text, err)
	}
}

func TestP902RightNumbers(t *testing.T) {
	holdRight(t, nil, true)
	holdRight(t, []api.Rule{}, true)
	for _, n := range []int{1, 2, 63, 64, 65, 66, 128, 1000, 1 << 16} {
		holdRight(t, numbered(n), n <= 64)
	}
}

func TestP902RightNames(t *testing.T) {
	for _, n := range []int{1, 2, 3, 63, 64} {
		for _, at := range []int{0, n / 2, n - 1} {
			for _, name := range []string{"", "9", "a b", "a:", "#", "a\n", "é", strings.Repeat("a", 33)} {
				holdRight(t, instead(numbered(n), at, named(name, a())), false)
			}
			for _, name := range []string{"a", "_", "R0", "r", "r00", strings.Repeat("a", 32)} {
				holdRight(t, instead(numbered(n), at, named(name, a())), true)
			}
			for other := range n {
				l := numbered(n)
				l[at].Name = l[other].Name
				holdRight(t, l, other == at)
			}
		}
	}
	// A name that is there thrice, and names that are alike but for one byte.
	holdRight(t, []api.Rule{named("x", a()), named("x", b()), named("x", a())}, false)
	holdRight(t, []api.Rule{named("x", a()), named("X", a()), named("xx", a()), named("x_", a()), named("_x", a()), named("x0", a())}, true)
	// The same tree may stand behind two names.
	holdRight(t, []api.Rule{named("x", a()), named("y", a())}, true)
}

func TestP902RightTrees(t *testing.T) {
	around := []api.Node{of(4, a(), b()), of(5, e(), of(1), a()), of(6, of(7, of(8, rep(a(), 2, 3)))), of(4, of(6, a()), of(5, of(4, a(), b()), e()), c())}
	for _, n := range []int{1, 3, 64} {
		for _, at := range []int{0, n / 2, n - 1} {
			for _, x := range sample.MayNot() {
				holdRight(t, instead(numbered(n), at, named("x", x)), false)
				for _, y := range around {
					for place := range tree.Size(y) {
						holdRight(t, instead(numbered(n), at, named("x", sample.With(y, place, x))), false)
					}
				}
			}
			for _, x := range []api.Node{of(1), e(), a(), {Kind: 3}, sample.Chain(4096), sample.Beside(4, 4096, a()), sample.Beside(5, 4096, e()), rep(a(), 0, 0), rep(a(), 1000, -1), sample.Nested(5, 2047, true)} {
				holdRight(t, instead(numbered(n), at, named("x", x)), true)
			}
			for _, x := range []api.Node{sample.Chain(4097), sample.Beside(4, 4097, a()), sample.Beside(5, 4097, e()), sample.Nested(4, 2048, true), sample.Chain(60000), sample.Beside(5, 1<<17, a())} {
				holdRight(t, instead(numbered(n), at, named("x", x)), false)
			}
		}
	}
	// As many nodes as may be in each of as many rules as may be.
	l := numbered(64)
	for i := range l {
		l[i].Body = sample.Beside(4, 4096, a())
	}
	holdRight(t, l, true)
	l[63].Body = sample.Beside(4, 4097, a())
	holdRight(t, l, false)
}

func holdSame(t *testing.T, x, y []api.Rule, want bool) {
	t.Helper()
	if Same(x, y) != want || Same(y, x) != want {
		t.Errorf("Same(%s, %s) is %t, %t", brief(x), brief(y), Same(x, y), Same(y, x))
	}
}

func TestP902Same(t *testing.T) {
	holdSame(t, nil, nil, true)
	holdSame(t, nil, []api.Rule{}, true)
	holdSame(t, nil, numbered(1), false)
	holdSame(t, []api.Rule{}, []api.Rule{{}}, false)
	holdSame(t, []api.Rule{{}}, []api.Rule{{}}, true)
	deep := of(4, of(6, a()), of(5, rep(of(4, a(), b()), 2, 3), e(), of(1)), c())
	for _, n := range []int{1, 2, 3, 64, 65, 100} {
		l := numbered(n)
		for i := range l {
			l[i].Body = deep
		}
		holdSame(t, l, instead(l, 0, l[0]), true)
		holdSame(t, l, l[:n-1], false)
		holdSame(t, l, l[1:], false)
		holdSame(t, l, append(slices.Clone(l), l[n-1]), false)
		for _, at := range []int{0, n / 2, n - 1} {
			for _, name := range []string{"", "r", "R0", l[at].Name + "0", l[at].Name + " ", l[(at+1)%n].Name + "_"} {
				holdSame(t, l, instead(l, at, named(name, deep)), false)
			}
			holdSame(t, l, instead(l, at, named(l[at].Name, tree.Copy(deep))), true)
			for place := range tree.Size(deep) {
				for _, x := range []api.Node{{}, of(2, a()), rep(of(4, a(), b()), 2, 4), rep(of(4, a(), b()), 1, 3), {Kind: 3, Set: sets.Of('z')}} {
					holdSame(t, l, instead(l, at, named(l[at].Name, sample.With(deep, place, x))), false)
				}
			}
		}
		if n > 1 {
			turned := slices.Clone(l)
			turned[0], turned[n-1] = turned[n-1], turned[0]
			holdSame(t, l, turned, false)
			slices.Reverse(turned)
			holdSame(t, l, turned, n < 4)
		}
	}
	// Names and trees that are there, but not with one another.
	holdSame(t, []api.Rule{named("x", a()), named("y", b())}, []api.Rule{named("x", b()), named("y", a())}, false)
	holdSame(t, []api.Rule{named("x", a()), named("y", b())}, []api.Rule{named("y", b()), named("x", a())}, false)
	// Rules that may not be, and such that say the same, but not alike.
	holdSame(t, []api.Rule{named("", api.Node{Kind: -5})}, []api.Rule{named("", api.Node{Kind: -5})}, true)
	holdSame(t, []api.Rule{named("x", api.Node{Kind: 2, Kids: []api.Node{}})}, []api.Rule{named("x", e())}, true)
	holdSame(t, []api.Rule{named("x", of(1))}, []api.Rule{named("x", api.Node{Kind: 3})}, false)
	holdSame(t, []api.Rule{named("x", of(6, a()))}, []api.Rule{named("x", rep(a(), 0, -1))}, false)
	holdSame(t, []api.Rule{named("x", sample.Chain(60000))}, []api.Rule{named("x", sample.Chain(60000))}, true)
	holdSame(t, []api.Rule{named("x", sample.Chain(60000))}, []api.Rule{named("x", sample.Chain(60003))}, false)
}

func TestP903Lines(t *testing.T) {
	ab, x, y := tree.Alt(a(), b()), named("x", a()), named("y", b())
	holdSays(t, "")
	holdSays(t, "\n")
	holdSays(t, strings.Repeat("\n", 65536))
	holdSays(t, "#")
	holdSays(t, "#\n")
	holdSays(t, "#x:a")
	holdSays(t, "\n#\n\n##\n#x:(\n# 9:a\n#\x00\r\xff")
	holdSays(t, "#x\n\nab_1:a|b\nB:\n", named("ab_1", ab), named("B", e()))
	for _, text := range []string{"x:a\ny:b", "x:a\ny:b\n", "\nx:a\ny:b", "x:a\n\ny:b", "x:a\ny:b\n\n", "\n\n\nx:a\n\n\n\ny:b\n\n\n", "#\nx:a\ny:b", "x:a\n#\ny:b", "x:a\ny:b\n#", "x:a\ny:b\n#\n", "#x:b\n#\n\nx:a\n\n#z:c\ny:b\n#y:c"} {
		holdSays(t, text, x, y)
	}
	// The order is that of the lines.
	holdSays(t, "y:b\nx:a", y, x)
	holdSays(t, "x:a", x)
	holdSays(t, "x:a\n", x)
	// A name, a colon, and nothing.
	holdSays(t, "x:", named("x", e()))
	holdSays(t, "x:\n", named("x", e()))
	holdSays(t, "x:\ny:b", named("x", e()), y)
	holdSays(t, "x:\n\ny:\nz:", named("x", e()), named("y", e()), named("z", e()))
	// What stands within an expression, as far as its end.
	word := func(s string) api.Node { return tree.Word([]byte(s)...) }
	for text, want := range map[string]api.Node{
		"x: a": word(" a"), "x:a ": word("a "), "x: ": word(" "), "x:\ta": word("\ta"), "x::": word(":"), "x:a:b": word("a:b"), "x::a": word(":a"), "x:y:": word("y:"), "x:#": word("#"), "x:#a": word("#a"), "x:a#b": word("a#b"), "x: #": word(" #"),
		"x:\r": word("\r"), "x:a\r": word("a\r"), "x:\x00": word("\x00"), "x:a\xff": word("a\xff"), "x:\x00\xffa": word("\x00\xffa"), `x:\n`: word("\n"), `x:a\nb`: word("a\nb"),
		"x:|": tree.Alt(e(), e()), "x:()": e(), "x:[:#]*": tree.Star(tree.Bytes(sets.Of(':', '#'))), "x:a|y:b": tree.Alt(a(), word("y:b")),
	} {
		for _, ahead := range []string{"", "\n", "#\n", "# x:b\n\n"} {
			for _, behind := range []string{"", "\n", "\n\n#", "\n#x:"} {
				holdSays(t, ahead+text+behind, named("x", want))
			}
			holdSays(t, ahead+text+"\ny:b", named("x", want), y)
			holdSays(t, ahead+"y:b\n"+text, y, named("x", want))
		}
	}
}

// A line of which not a 10, but another byte, would be the end.
func TestP903OtherEnds(t *testing.T) {
	holdSays(t, "x:a\r\ny:b\r\n", named("x", tree.Word('a', '\r')), named("y", tree.Word('b', '\r')))
	holdSays(t, "x:a\x00y:b", named("x", tree.Word([]byte("a\x00y:b")...)))
	holdSays(t, "x:a\u2028y:b\x85\x0b\x0c", named("x", tree.Word([]byte("a\u2028y:b\x85\x0b\x0c")...)))
	holdSays(t, "#\r\n#\rx:a\n#\x00\ny:b", named("y", b()))
	holdWrong(t, "\r\nx:a", api.ErrName, 0)
	holdWrong(t, "x:a\n\r\ny:b", api.ErrName, 4)
	holdWrong(t, "x:a\n\r", api.ErrName, 4)
}

// Each byte at each place of a line that it may have.
func TestP903EachByte(t *testing.T) {
	for n := range 256 {
		s := string([]byte{byte(n)})
		for _, text := range []string{s, s + "x:a", "x" + s + ":a", "x" + s, "x:" + s, "x:" + s + "a", "x:a" + s, "x:a" + s + "b", "x:a\n" + s, "x:a\n" + s + "y:b", "x:a" + s + "\ny:b", "#" + s + "x:a", "#a" + s, s + "\nx:a", s + "#\nx:a"} {
			holdModel(t, text)
			holdModel(t, "w:a\n\n"+text+"\n")
		}
		switch {
		case strings.Contains(letters, s):
			holdSays(t, s+":a", named(s, a()))
			holdSays(t, "x"+s+":a", named("x"+s, a()))
		case strings.Contains(digits, s):
			holdWrong(t, s+":a", api.ErrName, 0)
			holdSays(t, "x"+s+":a", named("x"+s, a()))
		case s == "#":
			holdSays(t, s+"x:a")
			holdWrong(t, "x"+s+":a", api.ErrColon, 1)
		case s == ":":
			holdWrong(t, s+"x:a", api.ErrName, 0)
			holdSays(t, "x"+s+":a", named("x", tree.Word(':', 'a')))
		case s == "\n":
			holdSays(t, s+"x:a", named("x", a()))
			holdWrong(t, "x"+s+":a", api.ErrColon, 1)
		default:
			holdWrong(t, s+"x:a", api.ErrName, 0)
			holdWrong(t, "x"+s+":a", api.ErrColon, 1)
		}
	}
}

// Blanks stand nowhere ahead of the colon, and a # that is not the first byte of its line is one as others are.
func TestP903BlanksAndSigns(t *testing.T) {
	holdWrong(t, " x:a", api.ErrName, 0)
	holdWrong(t, " #", api.ErrName, 0)
	holdWrong(t, "\t", api.ErrName, 0)
	holdWrong(t, " ", api.ErrName, 0)
	holdWrong(t, "x :a", api.ErrColon, 1)
	holdWrong(t, "x y:a", api.ErrColon, 1)
	holdWrong(t, "x\t:a", api.ErrColon, 1)
	holdWrong(t, "x#:a", api.ErrColon, 1)
	holdWrong(t, "x#", api.ErrColon, 1)
	holdWrong(t, "x:a\n #\n", api.ErrName, 4)
	holdSays(t, "x:a#y:b\n", named("x", tree.Word([]byte("a#y:b")...)))
	holdSays(t, "x: a", named("x", tree.Word(' ', 'a')))
	holdSays(t, "id: a", named("id", tree.Word(' ', 'a')))
}

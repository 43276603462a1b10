package show

import (
	"fmt"
	"slices"
	"strings"
	"testing"

	"doublet/api"
	"doublet/lexeme"
	"doublet/parse"
	"doublet/sample"
	"doublet/sets"
	"doublet/tree"
)

// Short names for what most trees are made of.
var (
	a, b, c, e = sample.A, sample.B, sample.C, sample.Empty
	of, rep    = sample.Of, sample.Rep
)

// row: the lexemes of a text that can be split, all at 0.
func row(t *testing.T, text string) []api.Lexeme {
	t.Helper()
	l, wrong := lexeme.Split([]byte(text))
	if wrong != (api.Bad{}) {
		t.Fatalf("Split(%.60q) tells %v", text, wrong)
	}
	for i := range l {
		l[i].At = 0
	}
	return l
}

// shown puts the lexemes of a tree behind others, kind by kind.
func shown(l []api.Lexeme, x api.Node) []api.Lexeme {
	kid := func(y api.Node, brackets ...api.Kind) {
		if !slices.Contains(brackets, y.Kind) {
			l = shown(l, y)
			return
		}
		l = append(l, api.Lexeme{Kind: 2})
		l = append(shown(l, y), api.Lexeme{Kind: 3})
	}
	switch x.Kind {
	case 1:
		return append(l, api.Lexeme{Kind: 1})
	case 3:
		return append(l, api.Lexeme{Kind: 1, Set: x.Set})
	case 4:
		for _, y := range x.Kids {
			kid(y, 5, 4, 2)
		}
	case 5:
		kid(x.Kids[0], 5)
		for _, y := range x.Kids[1:] {
			l = append(l, api.Lexeme{Kind: 4})
			kid(y, 5)
		}
	case 6, 7, 8:
		kid(x.Kids[0], 5, 4, 2)
		l = append(l, api.Lexeme{Kind: api.LexKind(x.Kind) - 1})
	case 9:
		kid(x.Kids[0], 5, 4, 2)
		l = append(l, api.Lexeme{Kind: 8, Lo: x.Lo, Hi: x.Hi})
	}
	return l
}

// brief: the front of what something is written as.
func brief(of any) string {
	text := fmt.Sprint(of)
	if len(text) > 300 {
		text = text[:300] + " .."
	}
	return text
}

// holdWrong: both calls tell an error of a tree, and nothing beside it.
func holdWrong(t *testing.T, x api.Node, want api.Errno) {
	t.Helper()
	if l, err := Lexemes(x); len(l) != 0 || err != want {
		t.Errorf("Lexemes(%s) = %s, %d, want %d", brief(x), brief(l), err, want)
	}
	if text, err := Text(x); text != "" || err != want {
		t.Errorf("Text(%s) = %.60q, %d, want %d", brief(x), text, err, want)
	}
}

// holdTextOf: Text tells what Join makes of lexemes, and the tree comes back from that.
func holdTextOf(t *testing.T, x api.Node, l []api.Lexeme) {
	t.Helper()
	want, err := lexeme.Join(l)
	if err != api.OK {
		t.Fatalf("Join(%s) tells %d", brief(l), err)
	}
	if len(want) > 65536 {
		want, err = "", api.ErrLong
	}
	text, wrong := Text(x)
	if text != want || wrong != err {
		t.Errorf("Text(%s) = %.60q, %d, want %.60q, %d", brief(x), text, wrong, want, err)
	}
	if err != api.OK {
		return
	}
	back, bad := parse.Text([]byte(text))
	if !tree.Same(back, sample.Filled(x)) || bad != (api.Bad{}) {
		t.Errorf("parse.Text(%.60q) = %s, %v, want %s", text, brief(back), bad, brief(sample.Filled(x)))
	}
}

// holdShown holds both calls for a tree that may be against what it is shown as, kind by kind; it tells that.
func holdShown(t *testing.T, x api.Node) []api.Lexeme {
	t.Helper()
	want := shown(nil, x)
	if len(want) > 1024 || sample.Deepest(want) > 64 {
		holdWrong(t, x, api.ErrLong)
		return want
	}
	if l, err := Lexemes(x); !slices.Equal(l, want) || err != api.OK {
		t.Errorf("Lexemes(%s) = %s, %d, want %s", brief(x), brief(l), err, brief(want))
	}
	holdTextOf(t, x, want)
	return want
}

// holdAs: a tree is shown as a text, and as its lexemes.
func holdAs(t *testing.T, x api.Node, text string) {
	t.Helper()
	if got := holdShown(t, x); !slices.Equal(got, row(t, text)) {
		t.Errorf("%s is shown as %s, want %q", brief(x), brief(got), text)
	}
	if l, err := Lexemes(x); !slices.Equal(l, row(t, text)) || err != api.OK {
		t.Errorf("Lexemes(%s) = %s, %d, want those of %q", brief(x), brief(l), err, text)
	}
	if got, err := Text(x); got != text || err != api.OK {
		t.Errorf("Text(%s) = %q, %d, want %q", brief(x), got, err, text)
	}
}

// thing: a tree, its text, and whether that stands between brackets in a KindAlt, and elsewhere.
type thing struct {
	x              api.Node
	text           string
	inAlt, inOther bool
}

func things() []thing {
	return []thing{
		{of(1), `[^\x00-\xff]`, false, false}, {e(), "", false, true}, {a(), "a", false, false},
		{of(4, a(), b()), "ab", false, true}, {of(5, a(), b()), "a|b", true, true},
		{of(6, a()), "a*", false, false}, {of(7, a()), "a+", false, false}, {of(8, a()), "a?", false, false}, {rep(a(), 2, 3), "a{2,3}", false, false},
		{tree.Bytes(api.Set{}), `[^\x00-\xff]`, false, false}, {tree.Bytes(sets.Not(sets.Of(10))), ".", false, false}, {tree.Bytes(sets.All()), `[\x00-\xff]`, false, false},
		{tree.Bytes(sets.Of('(')), `\(`, false, false}, {tree.Bytes(sets.Of('|')), `\|`, false, false}, {tree.Bytes(sets.Of('*')), `\*`, false, false},
		{of(4, e(), e()), "()()", false, true}, {of(5, e(), e()), "|", true, true}, {of(6, e()), "()*", false, false}, {of(6, of(5, e(), a())), "(|a)*", false, false},
	}
}

// within: the text of a thing where it may need brackets.
func (x thing) within(brackets bool) string {
	if brackets {
		return "(" + x.text + ")"
	}
	return x.text
}

func TestP802Alone(t *testing.T) {
	for _, x := range things() {
		holdAs(t, x.x, x.text)
	}
	x := of(4, of(5, a(), b()), of(6, a()))
	holdAs(t, x, "(a|b)a*")
	l, err := Lexemes(x)
	want := []api.Lexeme{{Kind: 2}, {Kind: 1, Set: sets.Of('a')}, {Kind: 4}, {Kind: 1, Set: sets.Of('b')}, {Kind: 3}, {Kind: 1, Set: sets.Of('a')}, {Kind: 5}}
	if !slices.Equal(l, want) || err != api.OK {
		t.Errorf("Lexemes(%s) = %v, %d, want %v", brief(x), l, err, want)
	}
	l, err = Lexemes(of(6, e()))
	want = []api.Lexeme{{Kind: 2}, {Kind: 3}, {Kind: 5}}
	if !slices.Equal(l, want) || err != api.OK {
		t.Errorf("Lexemes of a KindStar of KindEmpty = %v, %d, want %v", l, err, want)
	}
	l, err = Lexemes(e())
	if len(l) != 0 || err != api.OK {
		t.Errorf("Lexemes of KindEmpty = %v, %d", l, err)
	}
	l, err = Lexemes(of(1))
	if !slices.Equal(l, []api.Lexeme{{Kind: 1}}) || err != api.OK {
		t.Errorf("Lexemes of KindNone = %v, %d", l, err)
	}
}

// Each thing as the kid of each kind, at each place that there is.
func TestP802KidOfEachKind(t *testing.T) {
	for _, x := range things() {
		alt, other := x.within(x.inAlt), x.within(x.inOther)
		holdAs(t, of(6, x.x), other+"*")
		holdAs(t, of(7, x.x), other+"+")
		holdAs(t, of(8, x.x), other+"?")
		holdAs(t, rep(x.x, 2, 3), other+"{2,3}")
		holdAs(t, rep(x.x, 0, 0), other+"{0}")
		holdAs(t, rep(x.x, 1, -1), other+"{1,}")
		for _, y := range things() {
			anotherAlt, another := y.within(y.inAlt), y.within(y.inOther)
			holdAs(t, of(4, x.x, y.x), other+another)
			holdAs(t, of(5, x.x, y.x), alt+"|"+anotherAlt)
			holdAs(t, of(4, x.x, y.x, x.x), other+another+other)
			holdAs(t, of(5, x.x, y.x, x.x), alt+"|"+anotherAlt+"|"+alt)
			holdAs(t, of(4, y.x, y.x, x.x, y.x), another+another+other+another)
			holdAs(t, of(5, y.x, y.x, x.x, y.x), anotherAlt+"|"+anotherAlt+"|"+alt+"|"+anotherAlt)
		}
	}
}

func TestP802Deeper(t *testing.T) {
	cat, alt, star := tree.Cat, tree.Alt, tree.Star
	for text, x := range map[string]api.Node{
		"(a|b)|c": alt(alt(a(), b()), c()), "a|(b|c)": alt(a(), alt(b(), c())), "a|(b|c)|a": alt(a(), alt(b(), c()), a()), "(ab)c": cat(cat(a(), b()), c()), "a(bc)": cat(a(), cat(b(), c())), "a(bc)a": cat(a(), cat(b(), c()), a()),
		"ab|bc": alt(cat(a(), b()), cat(b(), c())), "(a|b)(b|c)": cat(alt(a(), b()), alt(b(), c())), "((a|b)|c)|a": alt(alt(alt(a(), b()), c()), a()), "((ab)c)a": cat(cat(cat(a(), b()), c()), a()),
		"a**": star(star(a())), "(ab)**": star(star(cat(a(), b()))), "(a*b)*": star(cat(star(a()), b())), "((ab)c)*": star(cat(cat(a(), b()), c())), "(ab|c)*": star(alt(cat(a(), b()), c())),
		"a*+?{2}{0,}": rep(rep(tree.Opt(tree.Plus(star(a()))), 2, 2), 0, -1), "()**": star(star(e())), "(()*|)?": tree.Opt(alt(star(e()), e())),
		"|a": alt(e(), a()), "a|": alt(a(), e()), "a||b": alt(a(), e(), b()), "||": alt(e(), e(), e()), "(|)|": alt(alt(e(), e()), e()), "|(|)": alt(e(), alt(e(), e())), "(a|)(|b)?": cat(alt(a(), e()), tree.Opt(alt(e(), b()))),
		"a()": cat(a(), e()), "()a": cat(e(), a()), "a()b": cat(a(), e(), b()), "(()())()": cat(cat(e(), e()), e()), "()()|": alt(cat(e(), e()), e()),
		`[^\x00-\xff]*`: star(tree.None()), `a[^\x00-\xff]|[^\x00-\xff]`: alt(cat(a(), tree.None()), tree.Bytes(api.Set{})),
	} {
		holdAs(t, x, text)
	}
}

// All trees of up to six nodes, each kind in each place.
func TestP802AllSmallTrees(t *testing.T) {
	met := 0
	for _, l := range sample.Every(6, []api.Node{of(1), e(), a()}, [2]int{7, 11}) {
		for _, x := range l {
			holdShown(t, x)
		}
		met += len(l)
		if t.Failed() {
			return
		}
	}
	if met < 30000 {
		t.Errorf("there are only %d trees", met)
	}
}

func TestP802Numbers(t *testing.T) {
	for lo := range 1001 {
		for _, hi := range []int{-1, lo, lo + 1, (lo + 1001) / 2, 1000} {
			if hi > 1000 {
				continue
			}
			for _, x := range []api.Node{a(), e(), of(5, a(), b())} {
				l, err := Lexemes(rep(x, lo, hi))
				if err != api.OK || len(l) == 0 || l[len(l)-1] != (api.Lexeme{Kind: 8, Lo: lo, Hi: hi}) {
					t.Errorf("Lexemes of a KindRep from %d to %d = %v, %d", lo, hi, l, err)
				}
				holdShown(t, rep(x, lo, hi))
			}
		}
	}
	holdAs(t, rep(a(), 2, 2), "a{2}")
	holdAs(t, rep(a(), 0, -1), "a{0,}")
	holdAs(t, rep(a(), 1000, 1000), "a{1000}")
	holdAs(t, rep(a(), 999, 1000), "a{999,1000}")
	holdAs(t, rep(rep(a(), 0, 1), 1, -1), "a{0,1}{1,}")
}

func TestP802Sets(t *testing.T) {
	for n := range 256 {
		s := sets.Of(byte(n))
		for _, s := range []api.Set{s, sets.Not(s), sets.Span(byte(n), 255), sets.Span(0, byte(n))} {
			l, err := Lexemes(tree.Bytes(s))
			if !slices.Equal(l, []api.Lexeme{{Kind: 1, Set: s}}) || err != api.OK {
				t.Errorf("Lexemes of a set = %v, %d, want %v", l, err, s)
			}
			holdShown(t, tree.Bytes(s))
			holdShown(t, of(4, tree.Bytes(s), of(6, tree.Bytes(s)), of(5, tree.Bytes(s), tree.Bytes(s))))
		}
		holdAs(t, tree.Bytes(s), lexeme.Literal(byte(n)))
	}
	for text, s := range map[string]api.Set{".": sets.Not(sets.Of(10)), `[\x00-\xff]`: sets.All(), `[^\x00-\xff]`: {}, `\n`: sets.Of(10), "[a-c]": sets.Of('a', 'b', 'c'), "[^a]": sets.Not(sets.Of('a'))} {
		holdAs(t, tree.Bytes(s), text)
		holdAs(t, of(4, tree.Bytes(s), of(6, tree.Bytes(s))), text+text+"*")
	}
}

// Several of what repeats within each other, in every order, above each thing.
func TestP802Repeated(t *testing.T) {
	above := []func(x api.Node) (api.Node, string){
		func(x api.Node) (api.Node, string) { return of(6, x), "*" },
		func(x api.Node) (api.Node, string) { return of(7, x), "+" },
		func(x api.Node) (api.Node, string) { return of(8, x), "?" },
		func(x api.Node) (api.Node, string) { return rep(x, 0, 0), "{0}" },
		func(x api.Node) (api.Node, string) { return rep(x, 20, 1000), "{20,1000}" },
		func(x api.Node) (api.Node, string) { return rep(x, 3, -1), "{3,}" },
	}
	for _, thing := range things() {
		for i := range 216 {
			x, text := thing.x, thing.within(thing.inOther)
			for _, n := range []int{i % 6, i / 6 % 6, i / 36} {
				y, sign := above[n](x)
				x, text = y, text+sign
			}
			holdAs(t, x, text)
			holdAs(t, of(4, x, c()), text+"c")
			holdAs(t, of(5, c(), x), "c|"+text)
		}
	}
}

func TestP804RandomTrees(t *testing.T) {
	next := sample.Chances()
	long := 0
	for i := range 6000 {
		n := 1 + next(40)
		if i%10 == 0 {
			n = 1 + next(1500)
		}
		l := holdShown(t, sample.Grown(n, next))
		if len(l) > 1024 || sample.Deepest(l) > 64 {
			long++
		}
		if t.Failed() {
			return
		}
	}
	if long < 20 || long > 500 {
		t.Errorf("%d of the trees are too long", long)
	}
}

func TestP802MayNotBe(t *testing.T) {
	around := []api.Node{
		of(4, a(), b()), of(5, e(), of(1), a()), of(6, of(7, of(8, rep(a(), 2, 3)))), of(4, of(6, a()), of(5, of(4, a(), b()), e()), c()), sample.Chain(30), sample.Beside(4, 30, a()), sample.Nested(5, 10, true), sample.Nested(4, 10, false),
		// Where there are too many lexemes, or brackets, too.
		sample.Nested(5, 70, true), sample.Nested(4, 70, false),
	}
	for _, x := range sample.MayNot() {
		holdWrong(t, x, api.ErrKind)
		for _, y := range around {
			for place := range tree.Size(y) {
				holdWrong(t, sample.With(y, place, x), api.ErrKind)
			}
		}
		for _, y := range []api.Node{sample.Beside(5, 2000, a()), sample.Beside(4, 3000, e()), sample.Chain(3000)} {
			for _, place := range []int{0, 1, 1000, tree.Size(y) - 1} {
				holdWrong(t, sample.With(y, place, x), api.ErrKind)
			}
		}
	}
}

func TestP802TooManyNodes(t *testing.T) {
	for _, n := range []int{4095, 4096} {
		for _, x := range []api.Node{sample.Chain(n), sample.Beside(4, n, a()), sample.Beside(5, n, a()), sample.Beside(4, n, e()), sample.Beside(5, n, e()), sample.Beside(5, n, of(1))} {
			holdWrong(t, x, api.ErrLong)
		}
	}
	holdWrong(t, sample.Nested(4, 2047, true), api.ErrLong)
	holdWrong(t, sample.Nested(5, 2047, false), api.ErrLong)
	for _, x := range []api.Node{sample.Chain(4097), sample.Chain(60000), sample.Beside(4, 4097, a()), sample.Beside(5, 4097, e()), sample.Beside(5, 1<<18, a()), sample.Nested(4, 2048, true), sample.Nested(5, 2048, false), sample.Nested(4, 30000, true)} {
		holdWrong(t, x, api.ErrKind)
	}
	// Both Kids of a node are one and the same memory: few nodes are made, and very many met.
	x := a()
	for range 29 {
		x = of(4, x, x)
	}
	holdWrong(t, x, api.ErrKind)
}

// As many lexemes as may be, one less, and one more, by each kind of tree.
func TestP802Long(t *testing.T) {
	for _, n := range []int{1022, 1023, 1024, 1025, 1026, 2000, 4000} {
		// Each of these has n lexemes.
		l := []api.Node{sample.Beside(4, n+1, a()), sample.Beside(4, n+1, of(1)), sample.Chain(n), of(4, sample.Chain(n-1), c()), of(4, sample.Beside(4, n-2, a()), c()), of(5, sample.Beside(4, n-1, a()), c()), of(6, sample.Beside(4, n-2, a())), of(8, of(4, sample.Beside(4, n-6, a()), e()))}
		if n <= 2000 {
			l = append(l, sample.Beside(5, n+2, e()), of(6, sample.Beside(5, n-1, e())), of(5, sample.Beside(5, n-2, e()), a()))
		}
		for i, x := range l {
			want := holdShown(t, x)
			if len(want) != n || !tree.Right(x) {
				t.Errorf("tree %d has %d lexemes, and not %d", i, len(want), n)
			}
			if n > 1024 {
				holdWrong(t, x, api.ErrLong)
			}
		}
	}
	// n KindEmpty have twice as many lexemes, and so on.
	for n := 2; n < 1100; n += 1 + n%7 {
		holdShown(t, sample.Beside(4, n+1, e()))
		holdShown(t, sample.Beside(5, n+1, a()))
		holdShown(t, sample.Beside(5, n+1, e()))
		holdShown(t, sample.Beside(4, n+1, of(5, e(), e())))
		holdShown(t, sample.Beside(4, n+1, of(6, a())))
		holdShown(t, sample.Beside(5, n+1, rep(a(), 7, -1)))
	}
	if l, err := Lexemes(sample.Beside(4, 513, e())); len(l) != 1024 || err != api.OK {
		t.Errorf("Lexemes of 512 KindEmpty = %s, %d", brief(l), err)
	}
	holdWrong(t, sample.Beside(4, 514, e()), api.ErrLong)
	if l, err := Lexemes(sample.Beside(5, 1026, e())); len(l) != 1024 || err != api.OK {
		t.Errorf("Lexemes of 1025 KindEmpty with | between = %s, %d", brief(l), err)
	}
	holdWrong(t, sample.Beside(5, 1027, e()), api.ErrLong)
}

// As many brackets within each other as may be, and one more.
func TestP802Deep(t *testing.T) {
	for n := 1; n <= 70; n++ {
		for _, first := range []bool{true, false} {
			// Of n nodes the outer one needs no brackets.
			alt, cat := sample.Nested(5, n, first), sample.Nested(4, n, first)
			for i, x := range []api.Node{alt, cat, of(4, alt, c()), of(5, c(), alt), of(5, cat, c()), of(6, alt), rep(cat, 2, 2), of(5, of(6, of(7, alt)), c())} {
				deep := []int{n - 1, n - 1, n, n, n - 1, n, n, n}[i]
				if got := sample.Deepest(holdShown(t, x)); got != deep {
					t.Errorf("tree %d of %d has brackets %d deep, and not %d", i, n, got, deep)
				}
				if deep > 64 {
					holdWrong(t, x, api.ErrLong)
				} else if _, err := Lexemes(x); err != api.OK {
					t.Errorf("Lexemes of tree %d of %d tells %d", i, n, err)
				}
			}
		}
	}
	x := a()
	for range 64 {
		x = of(6, of(5, x, e()))
	}
	if _, err := Lexemes(x); err != api.OK {
		t.Errorf("Lexemes of brackets 64 deep tells %d", err)
	}
	holdWrong(t, of(6, of(5, x, e())), api.ErrLong)
	// What repeats needs no brackets, however deep it is.
	holdAs(t, sample.Chain(1), "a")
	if l, err := Lexemes(sample.Chain(1024)); len(l) != 1024 || err != api.OK {
		t.Errorf("Lexemes of a chain of 1024 = %s, %d", brief(l), err)
	}
}

func TestP803LongText(t *testing.T) {
	class := func(n int) []api.Node { return slices.Repeat([]api.Node{sample.Sized(n)}, 1023) }
	for extra := -3; extra <= 5; extra++ {
		for _, x := range []api.Node{of(4, append(class(64), sample.Sized(64+extra))...), of(4, append([]api.Node{sample.Sized(64 + extra)}, class(64)...)...)} {
			l := holdShown(t, x)
			if got, err := Lexemes(x); !slices.Equal(got, l) || err != api.OK || len(l) != 1024 {
				t.Errorf("Lexemes of long classes tells %d", err)
			}
			text, err := Text(x)
			if extra <= 0 && (len(text) != 65536+extra || err != api.OK) || extra > 0 && (text != "" || err != api.ErrLong) {
				t.Errorf("Text of %d bytes and %d more = %.60q, %d", 65536, extra, text, err)
			}
		}
	}
	// As many lexemes as may be, of each kind, in as many bytes as may be, and in one more of them.
	x := of(6, of(5, append(slices.Repeat([]api.Node{sample.Sized(127)}, 510), sample.Sized(252))...))
	for extra := range 3 {
		x.Kids[0].Kids[510] = sample.Sized(252 + extra)
		text, err := Text(x)
		if extra < 2 && (len(text) != 65535+extra || err != api.OK) || extra == 2 && (text != "" || err != api.ErrLong) {
			t.Errorf("Text of %d bytes = %.60q, %d", 65535+extra, text, err)
		}
		if got := holdShown(t, x); len(got) != 1024 {
			t.Errorf("there are %d lexemes, and not 1024", len(got))
		}
	}
	x = sample.Beside(4, 513, sample.Sized(128))
	if text, err := Text(x); len(text) != 65536 || err != api.OK {
		t.Errorf("Text has %d bytes, %d", len(text), err)
	}
	if text, err := Text(of(4, append(x.Kids, a())...)); text != "" || err != api.ErrLong {
		t.Errorf("Text of one byte more = %.60q, %d", text, err)
	}
	if text, err := Text(sample.Beside(4, 1025, sample.Sized(250))); text != "" || err != api.ErrLong {
		t.Errorf("Text of far more bytes = %.60q, %d", text, err)
	}
	// What Lexemes tells comes ahead.
	holdWrong(t, sample.Beside(4, 1026, sample.Sized(250)), api.ErrLong)
	holdWrong(t, sample.With(x, 5, of(6)), api.ErrKind)
	holdWrong(t, sample.With(sample.Beside(4, 1025, sample.Sized(250)), 1024, api.Node{}), api.ErrKind)
}

// A text as long as may be, of classes that are written in one byte more: its tree has no text.
func TestP803ClassesGrow(t *testing.T) {
	const class = `[^!!!#%')+\-/13579;=?ACEGIKMOQSUWY\[\]_acegikmoqsuwy{}\xa0-\xff]`
	text := strings.Repeat(class, 1024)
	x, bad := parse.Text([]byte(text))
	if len(text) != 65536 || bad != (api.Bad{}) {
		t.Fatalf("the text of %d bytes is told %v", len(text), bad)
	}
	holdShown(t, x)
	if l, err := Lexemes(x); len(l) != 1024 || err != api.OK {
		t.Errorf("Lexemes = %s, %d", brief(l), err)
	}
	for n, want := range map[int]int{2: 130, 1008: 65520, 1009: 0, 1024: 0} {
		if got, err := Text(of(4, x.Kids[:n]...)); len(got) != want || (want == 0) != (err == api.ErrLong) {
			t.Errorf("Text of %d classes has %d bytes, %d, want %d", n, len(got), err, want)
		}
	}
}

// holdShort: of a right text's tree there are no more lexemes than of the text, whose tree it is again.
func holdShort(t *testing.T, l []api.Lexeme) bool {
	t.Helper()
	x, bad := parse.Lexemes(l)
	if bad != (api.Bad{}) {
		return false
	}
	got, err := Lexemes(x)
	if len(got) > len(l) || err != api.OK {
		t.Errorf("Lexemes of the tree of %s = %s, %d", brief(l), brief(got), err)
	}
	text, err := Text(x)
	if err != api.OK {
		t.Errorf("Text of the tree of %s tells %d", brief(l), err)
		return true
	}
	short, wrong := lexeme.Split([]byte(text))
	if len(short) > len(l) || wrong != (api.Bad{}) {
		t.Errorf("Text of the tree of %s = %.60q", brief(l), text)
	}
	y, bad := parse.Text([]byte(text))
	if !tree.Same(x, y) || bad != (api.Bad{}) {
		t.Errorf("parse.Text(%.60q) = %s, %v, want %s", text, brief(y), bad, brief(x))
	}
	return true
}

// All right rows of up to six lexemes, one of each kind.
func TestP805AllShortRows(t *testing.T) {
	letters := []api.Lexeme{{Kind: 1, Set: sets.Of('a')}, {Kind: 2}, {Kind: 3}, {Kind: 4}, {Kind: 5}, {Kind: 6}, {Kind: 7}, {Kind: 8, Lo: 2, Hi: -1}}
	rows := [][]api.Lexeme{{}}
	right := 0
	for range 6 {
		var longer [][]api.Lexeme
		for _, l := range rows {
			for _, x := range letters {
				longer = append(longer, append(slices.Clone(l), x))
			}
		}
		for _, l := range longer {
			if holdShort(t, l) {
				right++
			}
		}
		if t.Failed() {
			return
		}
		rows = longer
	}
	if right < 5000 {
		t.Errorf("only %d rows are right", right)
	}
}

func TestP805RandomTexts(t *testing.T) {
	next := sample.Chances()
	right := 0
	for i := range 4000 {
		if holdShort(t, sample.Wordy(next(2+3*i%700), 1+i%64, next)) {
			right++
		}
		if t.Failed() {
			return
		}
	}
	if right < 3500 {
		t.Errorf("only %d texts are right", right)
	}
}

// Brackets that are not needed go, those that are needed stay.
func TestP805Brackets(t *testing.T) {
	for text, want := range map[string]string{
		"": "", "()": "", "(())": "", "(a)": "a", "((a))": "a", "(ab)": "ab", "(a|b)": "a|b", "((a)|(b))": "a|b", "(((a)|(b)))": "a|b", "((a|b)|c)": "(a|b)|c", "(ab)c": "(ab)c", "((ab)c)": "(ab)c", "(ab)|c": "ab|c", "a|(bc)": "a|bc", "a|(bc)|(a)": "a|bc|a",
		"(a)*": "a*", "(a*)": "a*", "(a*)*": "a**", "((a)+)?": "a+?", "(a){2,2}": "a{2}", "((ab))*": "(ab)*", "((a|b))*": "(a|b)*", "(a*)b": "a*b", "a(b*)c": "ab*c", "(a)(b)": "ab", "((a)(b))*": "(ab)*",
		"()|a": "|a", "a|()": "a|", "()|()": "|", "(|)": "|", "(()|())": "|", "a()": "a()", "(a())": "a()", "(())a": "()a", "(())*": "()*", "(()*)": "()*", "()()": "()()", "(a|)(|b)?": "(a|)(|b)?", "(()|a)*": "(|a)*",
		"[a]": "a", `[^\n]`: ".", `\x41\.`: `A\.`, "(.)": ".", "([a-c])*": "[a-c]*", "(ab){0,}": "(ab){0,}", `(\()`: `\(`, "[ab]{3,3}": "[ab]{3}",
	} {
		x, bad := parse.Text([]byte(text))
		if bad != (api.Bad{}) {
			t.Fatalf("parse.Text(%q) tells %v", text, bad)
		}
		holdAs(t, x, want)
		holdShort(t, row(t, text))
		deep := 64 - sample.Deepest(row(t, text))
		x, bad = parse.Text([]byte(strings.Repeat("(", deep) + text + strings.Repeat(")", deep)))
		if bad != (api.Bad{}) {
			t.Fatalf("parse.Text(%q) between %d brackets tells %v", text, deep, bad)
		}
		holdAs(t, x, want)
	}
	// As many lexemes, and as deep, as may be.
	for _, text := range []string{strings.Repeat("a", 1024), strings.Repeat("()", 512), strings.Repeat("|", 1024), strings.Repeat("(a)", 341), strings.Repeat("(a|b)*", 170), strings.Repeat("(|)", 341), "a" + strings.Repeat("*", 1023), strings.Repeat("(a|", 64) + strings.Repeat("a*", 384) + strings.Repeat(")", 64), strings.Repeat("(", 64) + strings.Repeat("ab", 32) + strings.Repeat("c)*", 64), strings.Repeat("(a", 64) + strings.Repeat("a)", 64)} {
		if !holdShort(t, row(t, text)) {
			t.Errorf("%.60q is not right", text)
		}
	}
}

func TestP801ArgumentsStay(t *testing.T) {
	l := sample.MayNot()
	for _, x := range things() {
		l = append(l, x.x, of(4, x.x, of(6, x.x), of(5, x.x, e())))
	}
	l = append(l, sample.Nested(5, 64, true), sample.Nested(4, 70, false), sample.Chain(1024), sample.Chain(1025), sample.Beside(4, 1025, a()), sample.Beside(4, 1100, e()), sample.Beside(4, 1025, sample.Sized(200)))
	for _, x := range l {
		some := sample.Roomy([]api.Node{x})
		kept := sample.Dump(some)
		Lexemes(some[0])
		Text(some[0])
		if got := sample.Dump(some); got != kept {
			t.Errorf("%.300s became %.300s", kept, got)
		}
		if tree.Right(x) {
			holdShown(t, some[0])
		} else {
			holdWrong(t, some[0], api.ErrKind)
		}
	}
}

func TestP801NewMemory(t *testing.T) {
	for _, x := range []api.Node{a(), of(1), of(6, e()), of(4, of(5, a(), b()), rep(a(), 2, 3)), sample.Chain(500), sample.Beside(4, 200, of(5, a(), e())), sample.Nested(4, 64, true)} {
		want := shown(nil, x)
		text, _ := Text(x)
		l := []api.Node{tree.Copy(x)}
		first, _ := Lexemes(l[0])
		second, _ := Lexemes(l[0])
		room := first[:cap(first)]
		for i := range room {
			room[i] = api.Lexeme{Kind: 99, At: -5, Lo: 3}
		}
		if !tree.Same(l[0], x) {
			t.Errorf("the answer to %s shares memory with the tree", brief(x))
		}
		sample.Scribble(l)
		if !slices.Equal(second, want) {
			t.Errorf("the answer to %s became %s", brief(x), brief(second))
		}
		holdShown(t, x)
		if again, err := Text(x); again != text || err != api.OK {
			t.Errorf("Text(%s) = %.60q, %d, and before %.60q", brief(x), again, err, text)
		}
	}
}

// Trees of whatever there is: nothing panics, and what may not be is told.
func TestP801WhateverIsHandedIn(t *testing.T) {
	next := sample.Chances()
	var made func(deep int) api.Node
	made = func(deep int) api.Node {
		x := sample.Spoilt(api.Node{Kind: api.Kind(next(11))}, next)
		few := []int{0, 0, 0, 0, 2, 2, 1, 1, 1, 1, 1}[max(0, min(10, x.Kind))]
		if next(9) == 0 {
			few = next(4)
		}
		for range few {
			if deep > 0 {
				x.Kids = append(x.Kids, made(deep-1))
			} else {
				x.Kids = append(x.Kids, a())
			}
		}
		return x
	}
	right := 0
	for range 50000 {
		x := made(next(4))
		if tree.Right(x) {
			right++
			holdShown(t, x)
		} else {
			holdWrong(t, x, api.ErrKind)
		}
	}
	if right < 3000 {
		t.Errorf("only %d trees may be", right)
	}
}

package parse

import (
	"bytes"
	"fmt"
	"math"
	"slices"
	"strings"
	"testing"

	"doublet/api"
	"doublet/lexeme"
	"doublet/sample"
	"doublet/sets"
	"doublet/tree"
)

const (
	greatest = math.MaxInt
	least    = math.MinInt
)

func one(c byte) api.Lexeme              { return api.Lexeme{Kind: 1, Set: sets.Of(c)} }
func sign(kind api.LexKind) api.Lexeme   { return api.Lexeme{Kind: kind} }
func rep(lo, hi int) api.Lexeme          { return api.Lexeme{Kind: 8, Lo: lo, Hi: hi} }
func at(x api.Lexeme, n int) api.Lexeme  { x.At = n; return x }
func bad(kind api.Errno, at int) api.Bad { return api.Bad{Kind: kind, At: at} }

// Short names for what most trees are made of.
var a, b, c, e = sample.A, sample.B, sample.C, sample.Empty

// row: the lexemes of a text that can be split.
func row(t *testing.T, text string) []api.Lexeme {
	t.Helper()
	l, wrong := lexeme.Split([]byte(text))
	if wrong != (api.Bad{}) {
		t.Fatalf("Split(%.60q) tells %v", text, wrong)
	}
	return l
}

// placed: the same lexemes, the first one at a place, and each one so far behind the one ahead.
func placed(l []api.Lexeme, first, step int) []api.Lexeme {
	l = slices.Clone(l)
	for i := range l {
		l[i].At = first + i*step
	}
	return l
}

// A frame is what was read behind a ( that is open, or behind the beginning.
type frame struct {
	at     int
	parts  []api.Node
	pieces []api.Node
}

func (f frame) said() api.Node {
	return tree.Alt(append(f.parts, tree.Cat(f.pieces...))...)
}

// repeated: what a lexeme makes of a piece.
func repeated(x api.Lexeme, y api.Node) api.Node {
	switch x.Kind {
	case 5:
		return tree.Star(y)
	case 6:
		return tree.Plus(y)
	case 7:
		return tree.Opt(y)
	}
	return tree.Rep(y, x.Lo, x.Hi)
}

// parsed: Lexemes, lexeme by lexeme, by a stack of frames.
func parsed(l []api.Lexeme) (api.Node, api.Bad) {
	for _, x := range l {
		if !lexeme.Right(x) {
			return api.Node{}, bad(6, 0)
		}
	}
	if len(l) > 1024 {
		return api.Node{}, bad(4, l[1024].At)
	}
	open := []frame{{}}
	for _, x := range l {
		deep := len(open) - 1
		top := &open[deep]
		last := len(top.pieces) - 1
		switch {
		case x.Kind == 1:
			top.pieces = append(top.pieces, tree.Bytes(x.Set))
		case x.Kind == 2 && deep == 64:
			return api.Node{}, bad(17, x.At)
		case x.Kind == 2:
			open = append(open, frame{at: x.At})
		case x.Kind == 3 && deep == 0:
			return api.Node{}, bad(12, x.At)
		case x.Kind == 3:
			below := &open[deep-1]
			below.pieces = append(below.pieces, top.said())
			open = open[:deep]
		case x.Kind == 4:
			top.parts = append(top.parts, tree.Cat(top.pieces...))
			top.pieces = nil
		case last < 0:
			return api.Node{}, bad(5, x.At)
		default:
			top.pieces[last] = repeated(x, top.pieces[last])
		}
	}
	if deep := len(open) - 1; deep > 0 {
		return api.Node{}, bad(11, open[deep].at)
	}
	return open[0].said(), api.Bad{}
}

// brief: the front of what something is written as.
func brief(of any) string {
	text := fmt.Sprint(of)
	if len(text) > 300 {
		text = text[:300] + " .."
	}
	return text
}

// told tells where an answer is not what is wanted; what is told may be, and beside a fault there is no tree.
func told(t *testing.T, name string, of any, x api.Node, wrong api.Bad, want api.Node, fault api.Bad) {
	t.Helper()
	if !tree.Same(x, want) || wrong != fault {
		t.Errorf("%s(%q) = %s, %v, want %s, %v", name, brief(of), brief(x), wrong, brief(want), fault)
	}
	if wrong == (api.Bad{}) && !tree.Right(x) {
		t.Errorf("%s(%q) tells a tree that may not be", name, brief(of))
	}
	if wrong != (api.Bad{}) && (x.Kind != 0 || x.Set != api.Set{} || len(x.Kids) != 0 || x.Lo != 0 || x.Hi != 0) {
		t.Errorf("%s(%q) tells a tree beside %v", name, brief(of), wrong)
	}
}

func holdLexemes(t *testing.T, l []api.Lexeme, want api.Node, fault api.Bad) {
	t.Helper()
	x, wrong := Lexemes(l)
	told(t, "Lexemes", l, x, wrong, want, fault)
}

// holdRow holds Lexemes against the stack of frames, and tells what is wrong.
func holdRow(t *testing.T, l []api.Lexeme) api.Bad {
	t.Helper()
	want, fault := parsed(l)
	holdLexemes(t, l, want, fault)
	return fault
}

func holdText(t *testing.T, text string, want api.Node, fault api.Bad) {
	t.Helper()
	x, wrong := Text([]byte(text))
	told(t, "Text", text, x, wrong, want, fault)
}

// holdRight: a text and its lexemes say a tree, wherever the lexemes are said to stand.
func holdRight(t *testing.T, text string, want api.Node) {
	t.Helper()
	holdText(t, text, want, api.Bad{})
	l := row(t, text)
	holdLexemes(t, l, want, api.Bad{})
	holdLexemes(t, placed(l, 0, 0), want, api.Bad{})
	holdLexemes(t, placed(l, greatest, -3), want, api.Bad{})
}

// holdWrong: the fault of a text that can be split is that of its lexemes.
func holdWrong(t *testing.T, text string, kind api.Errno, place int) {
	t.Helper()
	holdText(t, text, api.Node{}, bad(kind, place))
	l := row(t, text)
	holdLexemes(t, l, api.Node{}, bad(kind, place))
	// The place is the lexeme's own: far away, or falling.
	n := slices.IndexFunc(l, func(x api.Lexeme) bool { return x.At == place })
	holdLexemes(t, placed(l, 1<<40, 9), api.Node{}, bad(kind, 1<<40+9*n))
	holdLexemes(t, placed(l, greatest, -1), api.Node{}, bad(kind, greatest-n))
}

func TestP702Reading(t *testing.T) {
	cat, alt, star, plus, opt, times := tree.Cat, tree.Alt, tree.Star, tree.Plus, tree.Opt, tree.Rep
	for text, want := range map[string]api.Node{
		"": e(), "a": a(), ".": tree.Bytes(sets.Not(sets.Of(10))), `[^\x00-\xff]`: tree.Bytes(api.Set{}), `\*`: tree.Bytes(sets.Of('*')), "[a-c]": tree.Bytes(sets.Of('a', 'b', 'c')),
		// Parts.
		"ab": cat(a(), b()), "abc": cat(a(), b(), c()), "abca": cat(a(), b(), c(), a()), "aa": cat(a(), a()),
		// Alternatives.
		"|": alt(e(), e()), "||": alt(e(), e(), e()), "a|": alt(a(), e()), "|a": alt(e(), a()), "a|b": alt(a(), b()), "a|b|c": alt(a(), b(), c()), "a|b|c|a": alt(a(), b(), c(), a()),
		"|a|b": alt(e(), a(), b()), "a||b": alt(a(), e(), b()), "a|b|": alt(a(), b(), e()), "|a|": alt(e(), a(), e()), "||a": alt(e(), e(), a()), "a||": alt(a(), e(), e()), "a|||b": alt(a(), e(), e(), b()),
		"ab|c": alt(cat(a(), b()), c()), "a|bc": alt(a(), cat(b(), c())), "ab|bc|ca": alt(cat(a(), b()), cat(b(), c()), cat(c(), a())), "a|a": alt(a(), a()),
		// Brackets.
		"()": e(), "(())": e(), "((()))": e(), "()()": cat(e(), e()), "a()": cat(a(), e()), "()a": cat(e(), a()), "a()b": cat(a(), e(), b()), "()()()": cat(e(), e(), e()), "(()())": cat(e(), e()),
		"()|": alt(e(), e()), "()|a": alt(e(), a()), "(|)": alt(e(), e()), "(|)|": alt(alt(e(), e()), e()), "|(|)": alt(e(), alt(e(), e())), "(a|)(|b)": cat(alt(a(), e()), alt(e(), b())),
		"(a)": a(), "((a))": a(), "(a)b": cat(a(), b()), "a(b)": cat(a(), b()), "(a)(b)": cat(a(), b()), "(a)|(b)": alt(a(), b()), "(a|b)": alt(a(), b()), "((a)|(b))": alt(a(), b()),
		"(ab)": cat(a(), b()), "(ab)c": cat(cat(a(), b()), c()), "a(bc)": cat(a(), cat(b(), c())), "(ab)(bc)": cat(cat(a(), b()), cat(b(), c())), "((ab)c)": cat(cat(a(), b()), c()), "a((bc))a": cat(a(), cat(b(), c()), a()),
		"(a|b)|c": alt(alt(a(), b()), c()), "a|(b|c)": alt(a(), alt(b(), c())), "(a|b)c": cat(alt(a(), b()), c()), "a(b|c)": cat(a(), alt(b(), c())), "(a|b)(b|c)": cat(alt(a(), b()), alt(b(), c())), "(ab)|c": alt(cat(a(), b()), c()), "((a|b)|c)|a": alt(alt(alt(a(), b()), c()), a()),
		// What repeats a piece.
		"a*": star(a()), "a+": plus(a()), "a?": opt(a()), "a{2}": times(a(), 2, 2), "a{2,}": times(a(), 2, -1), "a{2,3}": times(a(), 2, 3),
		"a{0}": times(a(), 0, 0), "a{0,}": times(a(), 0, -1), "a{1}": times(a(), 1, 1), "a{0,1}": times(a(), 0, 1), "a{1000}": times(a(), 1000, 1000), "a{1000,}": times(a(), 1000, -1), "a{0,1000}": times(a(), 0, 1000), "a{999,1000}": times(a(), 999, 1000),
		"(a)*": star(a()), "(a*)": star(a()), "((a)*)+": plus(star(a())), "()*": star(e()), "()+": plus(e()), "()?": opt(e()), "(){3}": times(e(), 3, 3), "(){0,}": times(e(), 0, -1), "(())*": star(e()),
		"(ab)*": star(cat(a(), b())), "(a|b)+": plus(alt(a(), b())), "(|)?": opt(alt(e(), e())), "(a|){4,5}": times(alt(a(), e()), 4, 5),
		"a**": star(star(a())), "a*+": plus(star(a())), "a+*": star(plus(a())), "a*?": opt(star(a())), "a??": opt(opt(a())), "a{2}{3}": times(times(a(), 2, 2), 3, 3), "a{2}*": star(times(a(), 2, 2)), "a*{2}": times(star(a()), 2, 2),
		// What stands above what.
		"ab*": cat(a(), star(b())), "a*b": cat(star(a()), b()), "a*b+c?": cat(star(a()), plus(b()), opt(c())), "a|b*": alt(a(), star(b())), "a*|b": alt(star(a()), b()), "ab|c*": alt(cat(a(), b()), star(c())), "a|bc{2}": alt(a(), cat(b(), times(c(), 2, 2))),
		"|a*": alt(e(), star(a())), "a+|": alt(plus(a()), e()), "(a|b*)*c": cat(star(alt(a(), star(b()))), c()), "(a(b|c)?)+": plus(cat(a(), opt(alt(b(), c())))), "a(b*)c": cat(a(), star(b()), c()), "(a*)(b*)": cat(star(a()), star(b())), "((a)b*|c)?": opt(alt(cat(a(), star(b())), c())),
	} {
		holdRight(t, text, want)
	}
	holdLexemes(t, nil, e(), api.Bad{})
	holdLexemes(t, []api.Lexeme{}, e(), api.Bad{})
	holdText(t, string([]byte(nil)), e(), api.Bad{})
	if x, wrong := Text(nil); wrong != (api.Bad{}) || !tree.Same(x, e()) {
		t.Errorf("Text(nil) = %v, %v", x, wrong)
	}
}

// Several of what repeats one behind the other, in every order, behind each thing that may be ahead.
func TestP702RepeatedInEveryOrder(t *testing.T) {
	signs := []api.Lexeme{sign(5), sign(6), sign(7), rep(0, 0), rep(2, 30), rep(1000, -1)}
	pieces := map[string]api.Node{"a": a(), "()": e(), "(a)": a(), "(ab)": tree.Cat(a(), b()), "(a|b)": tree.Alt(a(), b()), "(|)": tree.Alt(e(), e()), "(b*)": tree.Star(b())}
	for text, core := range pieces {
		l := row(t, text)
		for i := range len(signs) * len(signs) * len(signs) {
			some := []api.Lexeme{signs[i%6], signs[i/6%6], signs[i/36]}
			want := repeated(some[2], repeated(some[1], repeated(some[0], core)))
			holdLexemes(t, slices.Concat(l, some), want, api.Bad{})
			holdLexemes(t, slices.Concat([]api.Lexeme{one('c')}, l, some, l), tree.Cat(c(), want, core), api.Bad{})
			holdLexemes(t, slices.Concat([]api.Lexeme{sign(4)}, l, some, []api.Lexeme{sign(4)}, l), tree.Alt(e(), want, core), api.Bad{})
		}
	}
}

// Of a LexRep Lo and Hi come as they are, all that may be.
func TestP702Numbers(t *testing.T) {
	for lo := range 1001 {
		for _, hi := range []int{-1, lo, lo + 1, (lo + 1001) / 2, 1000} {
			if hi <= 1000 {
				holdLexemes(t, []api.Lexeme{one('a'), rep(lo, hi)}, tree.Rep(a(), lo, hi), api.Bad{})
			}
		}
	}
}

func TestP702Sets(t *testing.T) {
	for _, s := range []api.Set{{}, sets.All(), sets.Of(0), sets.Of(255), sets.Not(sets.Of(10)), sets.Span(60, 70), {1, 2, 3, 4}} {
		x := api.Lexeme{Kind: 1, Set: s}
		holdLexemes(t, []api.Lexeme{x}, tree.Bytes(s), api.Bad{})
		holdLexemes(t, []api.Lexeme{x, sign(5), one('a')}, tree.Cat(tree.Star(tree.Bytes(s)), a()), api.Bad{})
	}
}

// All rows of up to six lexemes, one of each kind, against the stack of frames; enough of them have to be right, and to be told each fault.
func TestP702AllShortRows(t *testing.T) {
	letters := []api.Lexeme{one('a'), sign(2), sign(3), sign(4), sign(5), sign(6), sign(7), rep(2, -1)}
	met := map[api.Errno]int{}
	rows := [][]api.Lexeme{{}}
	for range 6 {
		var longer [][]api.Lexeme
		for _, l := range rows {
			for _, x := range letters {
				longer = append(longer, append(slices.Clone(l), at(x, 5*len(l)+2)))
			}
		}
		for _, l := range longer {
			met[holdRow(t, l).Kind]++
		}
		if t.Failed() {
			return
		}
		rows = longer
	}
	for kind, enough := range map[api.Errno]int{api.OK: 5000, api.ErrNone: 5000, api.ErrClose: 5000, api.ErrOpen: 5000} {
		if met[kind] < enough {
			t.Errorf("only %d rows are told %d", met[kind], kind)
		}
	}
}

// mayNot: lexemes that may not be, by each thing that can be wrong.
func mayNot() []api.Lexeme {
	s := sets.Of('a')
	l := []api.Lexeme{{}, sign(9), sign(-1), sign(api.LexKind(least)), sign(api.LexKind(greatest)), {Set: s}, {Kind: 1, Set: s, Lo: 1}, {Kind: 1, Set: s, Hi: -1}, {Kind: 1, Hi: 1}}
	for kind := api.LexKind(1); kind <= 8; kind++ {
		l = append(l, at(sign(kind), -1), at(sign(kind), least))
		if kind > 1 {
			l = append(l, api.Lexeme{Kind: kind, Set: s}, api.Lexeme{Kind: kind, Set: api.Set{0, 0, 0, 1 << 63}})
		}
		if kind < 8 {
			l = append(l, api.Lexeme{Kind: kind, Lo: 1, Hi: 1}, api.Lexeme{Kind: kind, Lo: 1}, api.Lexeme{Kind: kind, Hi: -1})
		}
	}
	return append(l, rep(-1, -1), rep(-1, 3), rep(0, -2), rep(3, 2), rep(1, 0), rep(0, 1001), rep(1000, 1001), rep(1001, 1001), rep(1001, -1), rep(least, greatest), rep(0, greatest), rep(0, least), rep(greatest, -1))
}

func TestP703KindAheadOfAll(t *testing.T) {
	deep := strings.Repeat("(", 65)
	around := []string{"", "a", "a(b|c)*", "*", "|+", "(?", "{2}", ")", "a)", "(a", "((b)", "(*)", deep, strings.Repeat("a", 1025), strings.Repeat("a", 1024) + ")"}
	for _, x := range mayNot() {
		for _, text := range around {
			l := placed(row(t, text), 3, 2)
			for _, place := range []int{0, len(l) / 2, len(l)} {
				holdLexemes(t, slices.Insert(slices.Clone(l), place, x), api.Node{}, bad(api.ErrKind, 0))
			}
		}
		holdLexemes(t, []api.Lexeme{x, x}, api.Node{}, bad(api.ErrKind, 0))
		holdLexemes(t, []api.Lexeme{one('a'), x, sign(5), sign(0)}, api.Node{}, bad(api.ErrKind, 0))
	}
}

// pad: as many a as there is room for ahead of, and behind, a text, till there are n lexemes.
func pad(t *testing.T, text string, n int) (ahead, behind string) {
	left := strings.Repeat("a", n-len(row(t, text)))
	return left + text, text + left
}

func TestP703Long(t *testing.T) {
	for _, n := range []int{1025, 1026, 2000, 60000} {
		holdWrong(t, strings.Repeat("a", n), api.ErrLong, 1024)
		holdWrong(t, strings.Repeat("|", n), api.ErrLong, 1024)
		holdWrong(t, strings.Repeat("()", n/2+1), api.ErrLong, 1024)
		// Ahead of whatever else is wrong, on either side of the one that is too much.
		for _, text := range []string{"*", "?", "|+", "({3}", ")", "()())", "(", "((a)", strings.Repeat("(", 65)} {
			ahead, behind := pad(t, text, n)
			for _, s := range []string{ahead, behind} {
				l := row(t, s)
				holdWrong(t, s, api.ErrLong, l[1024].At)
			}
		}
	}
	// Where the one that is too much is itself wrong.
	for _, text := range []string{"*", "+", "?", "{2}", ")", "(", "|"} {
		holdWrong(t, strings.Repeat("a", 1024)+text, api.ErrLong, 1024)
		holdWrong(t, strings.Repeat("a", 1023)+"|"+text, api.ErrLong, 1024)
	}
	// The place is that of the lexeme, not how many there are ahead.
	holdText(t, strings.Repeat(`\x41`, 1025), api.Node{}, bad(api.ErrLong, 4*1024))
	holdText(t, "[ab]"+strings.Repeat("a", 1024), api.Node{}, bad(api.ErrLong, 1027))
	holdLexemes(t, many(1025, 0), api.Node{}, bad(api.ErrLong, 0))
	holdLexemes(t, many(1<<20, 77), api.Node{}, bad(api.ErrLong, 77))
}

// many: n lexemes, all at one place.
func many(n, place int) []api.Lexeme { return slices.Repeat([]api.Lexeme{at(one('a'), place)}, n) }

// As many lexemes as there may be, and one less: what is wrong within is told.
func TestP703NotTooLong(t *testing.T) {
	for _, n := range []int{1023, 1024} {
		l := many(n, 7)
		want := tree.Cat(slices.Repeat([]api.Node{a()}, n)...)
		holdLexemes(t, l, want, api.Bad{})
		for _, c := range []struct {
			x    api.Lexeme
			n    int
			kind api.Errno
		}{{sign(5), 0, api.ErrNone}, {rep(1, 1), 0, api.ErrNone}, {sign(3), 0, api.ErrClose}, {sign(3), n - 1, api.ErrClose}, {sign(2), 0, api.ErrOpen}, {sign(2), n - 1, api.ErrOpen}} {
			some := slices.Clone(l)
			some[c.n] = at(c.x, 99)
			holdLexemes(t, some, api.Node{}, bad(c.kind, 99))
		}
		some := slices.Clone(l)
		some[n-2], some[n-1] = sign(4), at(sign(7), 5)
		holdLexemes(t, some, api.Node{}, bad(api.ErrNone, 5))
		for i := range 65 {
			some[i] = at(sign(2), i)
		}
		holdLexemes(t, some, api.Node{}, bad(api.ErrDeep, 64))
	}
}

func TestP703NoPieceAhead(t *testing.T) {
	for _, x := range []string{"*", "+", "?", "{2}", "{0,}", "{2,3}"} {
		for _, ahead := range []string{"", "|", "a|", "a*|", "||", "(", "a(", "(a)(", "((", "(a|", "(|", "()|", "(a)|b|", "a(b|c)*(a|"} {
			for _, behind := range []string{"", "a", "*", "|a", ")", "(", ")))", "((("} {
				holdWrong(t, ahead+x+behind, api.ErrNone, len(ahead))
			}
		}
		// Behind a piece all is well, whatever it is.
		for _, ahead := range []string{"a", "()", "(a|)", "a*", "|a", "a{2}", "(|)", "(())", "()()"} {
			holdText(t, ahead+x, parsedText(t, ahead+x), api.Bad{})
		}
	}
}

// parsedText: the tree of a right text, by the stack of frames.
func parsedText(t *testing.T, text string) api.Node {
	t.Helper()
	x, wrong := parsed(row(t, text))
	if wrong != (api.Bad{}) {
		t.Fatalf("%.60q is told %v", text, wrong)
	}
	return x
}

func TestP703Close(t *testing.T) {
	for _, ahead := range []string{"", "a", "ab", "a|", "|", "a*", "a|b", "()", "(a)", "(a|b)*", "(()())", "((a))|", "()|()", strings.Repeat("()", 70), strings.Repeat("(", 64) + strings.Repeat(")", 64)} {
		for _, behind := range []string{"", ")", "a", "*", "+a", "|", "(", "()", "((", "))((", "(*"} {
			holdWrong(t, ahead+")"+behind, api.ErrClose, len(ahead))
		}
	}
	holdWrong(t, "a)*", api.ErrClose, 1)
}

func TestP703Deep(t *testing.T) {
	for n := 1; n <= 70; n++ {
		shut := strings.Repeat(")", n)
		for _, c := range []struct {
			ahead, unit string
			tooDeep     int
		}{{"", "(", 64}, {"ab|", "(", 67}, {"", "a(", 129}, {"", "|(", 129}, {"", "()(", 192}, {"()(a)", "b*(", 5 + 194}} {
			text := c.ahead + strings.Repeat(c.unit, n)
			if n <= 64 {
				holdWrong(t, text, api.ErrOpen, len(text)-1)
				holdText(t, text+shut, parsedText(t, text+shut), api.Bad{})
				continue
			}
			for _, behind := range []string{"", shut, "*", "a" + shut + ")", ")"} {
				holdWrong(t, text+behind, api.ErrDeep, c.tooDeep)
			}
		}
	}
	// Brackets that are closed do not count.
	full := strings.Repeat("(", 64) + strings.Repeat(")", 64)
	holdText(t, strings.Repeat(full, 8), parsedText(t, strings.Repeat(full, 8)), api.Bad{})
	open := strings.Repeat("(", 63)
	holdWrong(t, open+"()()(", api.ErrOpen, 67)
	holdWrong(t, open+"()()((", api.ErrDeep, 68)
	holdWrong(t, open+"(a)(b|())", api.ErrDeep, 69)
	holdWrong(t, full+open+"((", api.ErrDeep, 128+64)
}

func TestP703Open(t *testing.T) {
	for text, place := range map[string]int{
		"(": 0, "(a": 0, "(a|b": 0, "(|": 0, "(a*": 0, "a(": 1, "a|(": 2, "a(b": 1, "(a)(": 3, "()()(a": 4,
		"((": 1, "((a": 1, "(a(b": 2, "(a|(b|": 3, "(((": 2, "(a)(b(c": 5, "((((a": 3,
		// The last one that is open: not the last one of all.
		"(()": 0, "(a(b)": 0, "(a(b)c": 0, "((a)(": 4, "((a)(b)": 0, "(((a)": 1, "(((a))": 0, "((a)((b)": 4, "(a(b(c)|(a": 8, "((a)|(b(c))|": 0, "(()()()": 0, "((())": 0, "a(b(c)*": 1,
	} {
		holdWrong(t, text, api.ErrOpen, place)
		holdWrong(t, "[ab](a|b){2,30}"+text, api.ErrOpen, 15+place)
	}
}

// Where several things are wrong the first one is told; a bracket that stays open is told behind all.
func TestP703PairsOfFaults(t *testing.T) {
	full := strings.Repeat("(", 64)
	// What is wrong with text stands at place within it, wherever all ahead is right and closed.
	faults := []struct {
		text  string
		kind  api.Errno
		place int
	}{
		{"|*", api.ErrNone, 1}, {"|+", api.ErrNone, 1}, {"a|?", api.ErrNone, 2}, {"({2,3}", api.ErrNone, 1},
		{")", api.ErrClose, 0}, {"(a))", api.ErrClose, 3}, {full + "(", api.ErrDeep, 64}, {full + "a(b)", api.ErrDeep, 65},
	}
	for _, first := range faults {
		for _, other := range faults {
			for _, between := range []string{"", "a", "a|(b)*", "(b|c)"} {
				holdWrong(t, first.text+between+other.text, first.kind, first.place)
				holdWrong(t, "a(b)"+first.text+between+other.text, first.kind, 4+first.place)
			}
		}
		for _, open := range []string{"(", "(a", "((a)", "(a|(b"} {
			holdWrong(t, first.text+open, first.kind, first.place)
		}
	}
	// A bracket that is open ahead of something wrong: closed by a ), or told behind.
	for _, c := range []struct {
		text  string
		kind  api.Errno
		place int
	}{
		{"(*", api.ErrNone, 1}, {"(a|+", api.ErrNone, 3}, {"((a)|?b", api.ErrNone, 5}, {"(a))", api.ErrClose, 3}, {"(a)b)(", api.ErrClose, 4}, {"(" + full, api.ErrDeep, 64}, {"(a" + full + "*", api.ErrDeep, 65}, {"(a)*(|*", api.ErrNone, 6},
		{full + "*", api.ErrNone, 64}, {full + "|+(", api.ErrNone, 65}, {full + "(*", api.ErrDeep, 64}, {full + strings.Repeat(")", 65) + "(*", api.ErrClose, 128}, {full + "a)(((", api.ErrDeep, 67},
	} {
		holdWrong(t, c.text, c.kind, c.place)
	}
}

// The lexemes' places: not rising, all the same, at the edge of their type.
func TestP703Places(t *testing.T) {
	for _, text := range []string{"a|*", "a)", "((a)", "(a(b)", strings.Repeat("(", 65), "a|b(c)*", strings.Repeat("a", 1025)} {
		l := row(t, text)
		for _, first := range []int{0, 1, 70000, greatest} {
			holdRow(t, placed(l, first, 0))
			holdRow(t, placed(l, first-first%7, -first/len(l)/2))
		}
		slices.Reverse(l)
		holdRow(t, l)
	}
	holdLexemes(t, []api.Lexeme{at(sign(2), 50), at(sign(2), 40), at(one('a'), 60), at(sign(3), 0)}, api.Node{}, bad(api.ErrOpen, 50))
	holdLexemes(t, []api.Lexeme{at(one('a'), 9), at(sign(4), 9), at(sign(6), 3), at(sign(3), 1)}, api.Node{}, bad(api.ErrNone, 3))
	holdLexemes(t, []api.Lexeme{at(sign(3), greatest), at(sign(5), 0)}, api.Node{}, bad(api.ErrClose, greatest))
}

// What Split tells is told, whatever is wrong with the lexemes ahead.
func TestP703TextOfSplit(t *testing.T) {
	holdText(t, `*\`, api.Node{}, bad(api.ErrEscape, 1))
	ahead := []string{"", "a", "(a|b)*", "*", "|+", "(?", ")", "a)", "(", "(a(b)", strings.Repeat("(", 65), strings.Repeat("a", 1024), strings.Repeat("a", 1025), strings.Repeat("a|", 700) + "*"}
	for _, c := range []struct {
		text  string
		kind  api.Errno
		place int
	}{
		{"]", api.ErrForm, 0}, {"}", api.ErrForm, 0}, {"\n", api.ErrForm, 0}, {`\q`, api.ErrEscape, 0}, {`\x4`, api.ErrEscape, 0}, {"[", api.ErrClass, 0}, {"[]", api.ErrClass, 1}, {"[a", api.ErrClass, 0}, {"[z-a]", api.ErrOrder, 1}, {`[a\q]`, api.ErrEscape, 2},
		{"{", api.ErrRep, 0}, {"{a}", api.ErrRep, 0}, {"{1001}", api.ErrRep, 0}, {"{2,1}", api.ErrOrder, 0}, {"{01}", api.ErrRep, 0},
	} {
		for _, front := range ahead {
			for _, behind := range []string{"", "*", ")", "("} {
				holdText(t, front+c.text+behind, api.Node{}, bad(c.kind, len(front)+c.place))
			}
		}
	}
}

func TestP703TextTooLong(t *testing.T) {
	class := "[" + strings.Repeat("ab", 32767) + "]"
	ab := tree.Bytes(sets.Of('a', 'b'))
	holdText(t, class, ab, api.Bad{})
	holdText(t, class[:1]+class[3:]+"|*", api.Node{}, bad(api.ErrNone, 65535))
	holdText(t, class[:1]+class[3:]+"|a", tree.Alt(ab, a()), api.Bad{})
	for _, text := range []string{class + "a", class + "*", "*" + class, class + ")", "]" + class, class + "\n", strings.Repeat("a", 65537), strings.Repeat("*", 65537), strings.Repeat("(", 3*65536)} {
		holdText(t, text, api.Node{}, bad(api.ErrLong, 65536))
	}
	for text, place := range map[string]int{"a": 1024, "*": 1024, "()": 1024, "|": 1024, "a*": 1024, `\x41`: 4096, "{12}": 4096} {
		holdText(t, strings.Repeat(text, 65536/len(text)), api.Node{}, bad(api.ErrLong, place))
	}
	holdText(t, strings.Repeat("a", 65535)+"]", api.Node{}, bad(api.ErrForm, 65535))
}

func TestP703TextIsSplitAndLexemes(t *testing.T) {
	next := sample.Chances()
	pieces := []string{"a", "b", "c", "(", ")", "(", ")", "|", "*", "+", "?", "{2}", "{0,}", "{3,7}", ".", "[a-c]", `\n`, "()", "(a|b)", "", "]", "[", "{", `\`}
	right := 0
	for i := range 40000 {
		most := len(pieces) - 4
		if i%3 == 0 {
			most = len(pieces)
		}
		var text strings.Builder
		for range next(1 + i%30) {
			text.WriteString(pieces[next(most)])
		}
		l, fault := lexeme.Split([]byte(text.String()))
		var want api.Node
		if fault == (api.Bad{}) {
			want, fault = Lexemes(l)
		}
		if fault == (api.Bad{}) {
			right++
		}
		holdText(t, text.String(), want, fault)
	}
	if right < 3000 {
		t.Errorf("only %d texts are right", right)
	}
	for range 5000 {
		text := make([]byte, next(12))
		for i := range text {
			text[i] = byte(next(256))
		}
		l, fault := lexeme.Split(text)
		var want api.Node
		if fault == (api.Bad{}) {
			want, fault = Lexemes(l)
		}
		holdText(t, string(text), want, fault)
	}
}

// Rows of all lengths, right ones, and such with one lexeme made another, left out or put in.
func TestP704RandomRows(t *testing.T) {
	next := sample.Chances()
	met := map[api.Errno]int{}
	for i := range 1500 {
		l := placed(sample.Wordy(next(2+7*i%1100), 1+i%64, next), next(9), next(9))
		met[holdRow(t, l).Kind]++
		if len(l) == 0 {
			continue
		}
		place := next(len(l))
		met[holdRow(t, slices.Delete(slices.Clone(l), place, place+1)).Kind]++
		x := at(sign(api.LexKind(1+next(7))), next(99))
		met[holdRow(t, slices.Insert(slices.Clone(l), place, x)).Kind]++
		l[place] = x
		met[holdRow(t, l).Kind]++
		if t.Failed() {
			return
		}
	}
	for kind, enough := range map[api.Errno]int{api.OK: 1000, api.ErrNone: 100, api.ErrClose: 100, api.ErrOpen: 100, api.ErrLong: 10} {
		if met[kind] < enough {
			t.Errorf("only %d rows are told %d", met[kind], kind)
		}
	}
}

// Rows of whatever there is: what may not be, too.
func TestP704WhateverIsHandedIn(t *testing.T) {
	next := sample.Chances()
	numbers := []int{least, -1001, -2, -1, 0, 1, 2, 7, 1000, 1001, 1 << 40, greatest}
	for range 30000 {
		l := make([]api.Lexeme, next(6))
		for i := range l {
			l[i] = api.Lexeme{Kind: api.LexKind(next(12) - 1), At: numbers[next(12)]}
			switch next(8) {
			case 0:
				l[i] = api.Lexeme{Kind: api.LexKind(numbers[next(12)]), Set: sets.Of(byte(next(256))), Lo: numbers[next(12)], Hi: numbers[next(12)]}
			case 1, 2, 3:
				l[i] = at([]api.Lexeme{one('a'), rep(next(1001), -1), sign(2), sign(3)}[next(4)], next(9))
			}
		}
		holdRow(t, l)
	}
}

// As many lexemes as there may be, of each shape.
func TestP704Full(t *testing.T) {
	for _, unit := range []string{"a", "|", "()", "(a)", "(a|b)", "(|)", "a*", "a|", "|a", "aa|", "(a)*", "()*", "a{1000}", "(aa|aa)", "((|)|)?", "((((a))))", "ab|(c)"} {
		n := 1024 / len(row(t, unit))
		text := strings.Repeat(unit, n)
		text += strings.Repeat("a", 1024-len(row(t, text)))
		holdRight(t, text, parsedText(t, text))
	}
	for _, sign := range []string{"*", "+", "?", "{2}", "{0,}", "{1000}", "*+"} {
		text := "a" + strings.Repeat(sign, 1023/len(row(t, sign)))
		text += strings.Repeat("?", 1024-len(row(t, text)))
		holdRight(t, text, parsedText(t, text))
	}
	deep := strings.Repeat("(", 64) + strings.Repeat("a", 1024-128) + strings.Repeat(")", 64)
	holdRight(t, deep, parsedText(t, deep))
	sloping := strings.Repeat("(a|", 64) + strings.Repeat("a*", 384) + strings.Repeat(")", 64)
	holdRight(t, sloping, parsedText(t, sloping))
	sloping = strings.Repeat("(", 64) + strings.Repeat("ab", 32) + strings.Repeat("c)*", 64)
	holdRight(t, sloping, parsedText(t, sloping))
}

func TestP705Brackets(t *testing.T) {
	next := sample.Chances()
	texts := []string{"", "a", "|", "a|", "|a", "ab", "a|b", "a*", "a{2,3}", "()", "(a)b", "(a|b)*c", "((a))", "a(b(c|)){3}?", strings.Repeat("(", 63) + "a|b" + strings.Repeat(")", 63), strings.Repeat("(", 64) + strings.Repeat(")", 64), strings.Repeat("a", 800)}
	for range 60 {
		text, err := lexeme.Join(sample.Wordy(next(40), 1+next(20), next))
		if err != api.OK {
			t.Fatal(err)
		}
		texts = append(texts, text)
	}
	for _, text := range texts {
		want, wrong := Text([]byte(text))
		if wrong != (api.Bad{}) {
			t.Fatalf("Text(%.60q) tells %v", text, wrong)
		}
		room := 64 - sample.Deepest(row(t, text))
		for n := range room + 1 {
			holdText(t, strings.Repeat("(", n)+text+strings.Repeat(")", n), want, api.Bad{})
		}
		deep := strings.Repeat("(", room+1) + text + strings.Repeat(")", room+1)
		_, fault := parsed(row(t, deep))
		if fault.Kind != api.ErrDeep {
			t.Fatalf("%.60q is told %v", deep, fault)
		}
		holdText(t, deep, api.Node{}, fault)
		if room == 64 {
			holdText(t, deep, api.Node{}, bad(api.ErrDeep, 64))
		}
	}
	for _, text := range []string{"a*", "a|b", "ab", ""} {
		x := parsedText(t, text)
		holdText(t, "c("+text+")", tree.Cat(c(), x), api.Bad{})
		holdText(t, "(("+text+"))*|", tree.Alt(tree.Star(x), e()), api.Bad{})
	}
}

// roomy: the same lexemes, in a list that has room behind it, with a mark in it.
func roomy(l []api.Lexeme) []api.Lexeme {
	return append(slices.Clone(l), sign(3), at(sign(5), 44), api.Lexeme{Kind: 99, At: -5})[:len(l)]
}

func TestP701ArgumentsStay(t *testing.T) {
	for _, text := range []string{"", "a", "(a|[b-d]{2,30})*c?|", "a|*", "a)", "((a)", strings.Repeat("(", 65), strings.Repeat("a", 1024), strings.Repeat("a", 1025)} {
		l := roomy(row(t, text))
		kept := slices.Clone(l[:cap(l)])
		want, fault := parsed(l)
		holdLexemes(t, l, want, fault)
		if !slices.Equal(l[:cap(l)], kept) {
			t.Errorf("Lexemes made %s of %s", brief(l[:cap(l)]), brief(kept))
		}
		room := []byte(text + ")*]")
		x, wrong := Text(room[:len(text)])
		told(t, "Text", text, x, wrong, want, fault)
		if string(room) != text+")*]" {
			t.Errorf("Text made %q of %q", room, text+")*]")
		}
	}
	l := roomy([]api.Lexeme{one('a'), sign(0)})
	kept := slices.Clone(l[:cap(l)])
	holdLexemes(t, l, api.Node{}, bad(api.ErrKind, 0))
	if !slices.Equal(l[:cap(l)], kept) {
		t.Errorf("Lexemes made %v of %v", l[:cap(l)], kept)
	}
}

func TestP701NewMemory(t *testing.T) {
	for _, text := range []string{"a*", "ab", "a|b", "(ab|c)*a|()|b{2}", "((a))(b)", "|||", "()()", "((ab)c|(ab)c)+", strings.Repeat("(a|", 60) + strings.Repeat(")", 60), strings.Repeat("ab*|", 200)} {
		b := []byte(text)
		l := row(t, text)
		want := parsedText(t, text)
		first, _ := Text(b)
		second, _ := Text(b)
		third, _ := Lexemes(l)
		fourth, _ := Lexemes(l)
		if sample.Shared(first, second, third, fourth) {
			t.Errorf("in the answers to %.60q a node lies in two lists", text)
		}
		sample.Scribble([]api.Node{first, third})
		clear(l)
		copy(b, bytes.Repeat([]byte("*"), len(b)))
		if !tree.Same(second, want) || !tree.Same(fourth, want) {
			t.Errorf("an answer to %.60q became %s, %s", text, brief(second), brief(fourth))
		}
		holdRight(t, text, want)
	}
}

// An answer that is wrong leaves nothing behind, for the next one either.
func TestP701OneAnswerAndTheNext(t *testing.T) {
	right := "(a|b)*c{2}"
	want := parsedText(t, right)
	for _, text := range []string{"((((*", "a)", strings.Repeat("(", 65), "((a", "[", strings.Repeat("a", 1025), strings.Repeat("(", 64)} {
		Text([]byte(text))
		holdRight(t, right, want)
	}
	done := make(chan bool)
	for range 8 {
		go func() {
			for range 200 {
				x, wrong := Text([]byte(right))
				y, fault := Text([]byte("((a)|(b"))
				if !tree.Same(x, want) || wrong != (api.Bad{}) || y.Kind != 0 || fault != bad(api.ErrOpen, 5) {
					t.Errorf("at once come %s, %v, %s, %v", brief(x), wrong, brief(y), fault)
					break
				}
			}
			done <- true
		}()
	}
	for range 8 {
		<-done
	}
}

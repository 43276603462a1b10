package show

import (
	"fmt"
	"math"
	"slices"
	"strings"
	"testing"

	"doublet/api"
	"doublet/lexeme"
	"doublet/parse"
	"doublet/sets"
	"doublet/tree"
)

const (
	greatest = math.MaxInt
	least    = math.MinInt
)

func a() api.Node { return tree.Bytes(sets.Of('a')) }
func b() api.Node { return tree.Bytes(sets.Of('b')) }
func c() api.Node { return tree.Bytes(sets.Of('c')) }
func e() api.Node { return api.Node{Kind: 2} }
func of(kind api.Kind, l ...api.Node) api.Node {
	return api.Node{Kind: kind, Kids: l}
}
func rep(x api.Node, lo, hi int) api.Node {
	return api.Node{Kind: 9, Kids: []api.Node{x}, Lo: lo, Hi: hi}
}

// row: the lexemes of a text that can be split, all at 0.
func row(t *testing.T, text string) []api.Lexeme {
	t.Helper()
	l, wrong := lexeme.Split([]byte(text))
	if wrong != (api.Bad{}) {
		t.Fatalf("Split(%.60q) tells %v", text, wrong)
	}
	for i := range l {
		l[i].At = 0
	}
	return l
}

// shown puts the lexemes of a tree behind others, kind by kind.
func shown(l []api.Lexeme, x api.Node) []api.Lexeme {
	kid := func(y api.Node, brackets ...api.Kind) {
		if !slices.Contains(brackets, y.Kind) {
			l = shown(l, y)
			return
		}
		l = append(l, api.Lexeme{Kind: 2})
		l = append(shown(l, y), api.Lexeme{Kind: 3})
	}
	switch x.Kind {
	case 1:
		return append(l, api.Lexeme{Kind: 1})
	case 3:
		return append(l, api.Lexeme{Kind: 1, Set: x.Set})
	case 4:
		for _, y := range x.Kids {
			kid(y, 5, 4, 2)
		}
	case 5:
		kid(x.Kids[0], 5)
		for _, y := range x.Kids[1:] {
			l = append(l, api.Lexeme{Kind: 4})
			kid(y, 5)
		}
	case 6, 7, 8:
		kid(x.Kids[0], 5, 4, 2)
		l = append(l, api.Lexeme{Kind: api.LexKind(x.Kind) - 1})
	case 9:
		kid(x.Kids[0], 5, 4, 2)
		l = append(l, api.Lexeme{Kind: 8, Lo: x.Lo, Hi: x.Hi})
	}
	return l
}

// deepest: how many brackets stand within each other in a text.
func deepest(l []api.Lexeme) int {
	deep, most := 0, 0
	for _, x := range l {
		switch x.Kind {
		case 2:
			deep++
		case 3:
			deep--
		}
		most = max(most, deep)
	}
	return most
}

// filled: a tree with KindSet of the empty set for KindNone.
func filled(x api.Node) api.Node {
	if x.Kind == 1 {
		return api.Node{Kind: 3}
	}
	var l []api.Node
	for _, kid := range x.Kids {
		l = append(l, filled(kid))
	}
	x.Kids = l
	return x
}

// brief: the front of what something is written as.
func brief(of any) string {
	text := fmt.Sprint(of)
	if len(text) > 300 {
		text = text[:300] + " .."
	}
	return text
}

// holdWrong: both calls tell an error of a tree, and nothing beside it.
func holdWrong(t *testing.T, x api.Node, want api.Errno) {
	t.Helper()
	if l, err := Lexemes(x); len(l) != 0 || err != want {
		t.Errorf("Lexemes(%s) = %s, %d, want %d", brief(x), brief(l), err, want)
	}
	if text, err := Text(x); text != "" || err != want {
		t.Errorf("Text(%s) = %.60q, %d, want %d", brief(x), text, err, want)
	}
}

// holdTextOf: Text tells what Join makes of lexemes, and the tree comes back from that.
func holdTextOf(t *testing.T, x api.Node, l []api.Lexeme) {
	t.Helper()
	want, err := lexeme.Join(l)
	if err != api.OK {
		t.Fatalf("Join(%s) tells %d", brief(l), err)
	}
	if len(want) > 65536 {
		want, err = "", api.ErrLong
	}
	text, wrong := Text(x)
	if text != want || wrong != err {
		t.Errorf("Text(%s) = %.60q, %d, want %.60q, %d", brief(x), text, wrong, want, err)
	}
	if err != api.OK {
		return
	}
	back, bad := parse.Text([]byte(text))
	if !tree.Same(back, filled(x)) || bad != (api.Bad{}) {
		t.Errorf("parse.Text(%.60q) = %s, %v, want %s", text, brief(back), bad, brief(filled(x)))
	}
}

// holdShown holds both calls for a tree that may be against what it is shown as, kind by kind; it tells that.
func holdShown(t *testing.T, x api.Node) []api.Lexeme {
	t.Helper()
	want := shown(nil, x)
	if len(want) > 1024 || deepest(want) > 64 {
		holdWrong(t, x, api.ErrLong)
		return want
	}
	if l, err := Lexemes(x); !slices.Equal(l, want) || err != api.OK {
		t.Errorf("Lexemes(%s) = %s, %d, want %s", brief(x), brief(l), err, brief(want))
	}
	holdTextOf(t, x, want)
	return want
}

// holdAs: a tree is shown as a text, and as its lexemes.
func holdAs(t *testing.T, x api.Node, text string) {
	t.Helper()
	if got := holdShown(t, x); !slices.Equal(got, row(t, text)) {
		t.Errorf("%s is shown as %s, want %q", brief(x), brief(got), text)
	}
	if l, err := Lexemes(x); !slices.Equal(l, row(t, text)) || err != api.OK {
		t.Errorf("Lexemes(%s) = %s, %d, want those of %q", brief(x), brief(l), err, text)
	}
	if got, err := Text(x); got != text || err != api.OK {
		t.Errorf("Text(%s) = %q, %d, want %q", brief(x), got, err, text)
	}
}

// thing: a tree, its text, and whether that stands between brackets in a KindAlt, and elsewhere.
type thing struct {
	x              api.Node
	text           string
	inAlt, inOther bool
}

func things() []thing {
	return []thing{
		{of(1), `[^\x00-\xff]`, false, false}, {e(), "", false, true}, {a(), "a", false, false},
		{of(4, a(), b()), "ab", false, true}, {of(5, a(), b()), "a|b", true, true},
		{of(6, a()), "a*", false, false}, {of(7, a()), "a+", false, false}, {of(8, a()), "a?", false, false}, {rep(a(), 2, 3), "a{2,3}", false, false},
		{tree.Bytes(api.Set{}), `[^\x00-\xff]`, false, false}, {tree.Bytes(sets.Not(sets.Of(10))), ".", false, false}, {tree.Bytes(sets.All()), `[\x00-\xff]`, false, false},
		{tree.Bytes(sets.Of('(')), `\(`, false, false}, {tree.Bytes(sets.Of('|')), `\|`, false, false}, {tree.Bytes(sets.Of('*')), `\*`, false, false},
		{of(4, e(), e()), "()()", false, true}, {of(5, e(), e()), "|", true, true}, {of(6, e()), "()*", false, false}, {of(6, of(5, e(), a())), "(|a)*", false, false},
	}
}

// within: the text of a thing where it may need brackets.
func (x thing) within(brackets bool) string {
	if brackets {
		return "(" + x.text + ")"
	}
	return x.text
}

func TestP802Alone(t *testing.T) {
	for _, x := range things() {
		holdAs(t, x.x, x.text)
	}
	x := of(4, of(5, a(), b()), of(6, a()))
	holdAs(t, x, "(a|b)a*")
	l, err := Lexemes(x)
	want := []api.Lexeme{{Kind: 2}, {Kind: 1, Set: sets.Of('a')}, {Kind: 4}, {Kind: 1, Set: sets.Of('b')}, {Kind: 3}, {Kind: 1, Set: sets.Of('a')}, {Kind: 5}}
	if !slices.Equal(l, want) || err != api.OK {
		t.Errorf("Lexemes(%s) = %v, %d, want %v", brief(x), l, err, want)
	}
	l, err = Lexemes(of(6, e()))
	want = []api.Lexeme{{Kind: 2}, {Kind: 3}, {Kind: 5}}
	if !slices.Equal(l, want) || err != api.OK {
		t.Errorf("Lexemes of a KindStar of KindEmpty = %v, %d, want %v", l, err, want)
	}
	l, err = Lexemes(e())
	if len(l) != 0 || err != api.OK {
		t.Errorf("Lexemes of KindEmpty = %v, %d", l, err)
	}
	l, err = Lexemes(of(1))
	if !slices.Equal(l, []api.Lexeme{{Kind: 1}}) || err != api.OK {
		t.Errorf("Lexemes of KindNone = %v, %d", l, err)
	}
}

// Each thing as the kid of each kind, at each place that there is.
func TestP802KidOfEachKind(t *testing.T) {
	for _, x := range things() {
		alt, other := x.within(x.inAlt), x.within(x.inOther)
		holdAs(t, of(6, x.x), other+"*")
		holdAs(t, of(7, x.x), other+"+")
		holdAs(t, of(8, x.x), other+"?")
		holdAs(t, rep(x.x, 2, 3), other+"{2,3}")
		holdAs(t, rep(x.x, 0, 0), other+"{0}")
		holdAs(t, rep(x.x, 1, -1), other+"{1,}")
		for _, y := range things() {
			anotherAlt, another := y.within(y.inAlt), y.within(y.inOther)
			holdAs(t, of(4, x.x, y.x), other+another)
			holdAs(t, of(5, x.x, y.x), alt+"|"+anotherAlt)
			holdAs(t, of(4, x.x, y.x, x.x), other+another+other)
			holdAs(t, of(5, x.x, y.x, x.x), alt+"|"+anotherAlt+"|"+alt)
			holdAs(t, of(4, y.x, y.x, x.x, y.x), another+another+other+another)
			holdAs(t, of(5, y.x, y.x, x.x, y.x), anotherAlt+"|"+anotherAlt+"|"+alt+"|"+anotherAlt)
		}
	}
}

func TestP802Deeper(t *testing.T) {
	cat, alt, star := tree.Cat, tree.Alt, tree.Star
	for text, x := range map[string]api.Node{
		"(a|b)|c": alt(alt(a(), b()), c()), "a|(b|c)": alt(a(), alt(b(), c())), "a|(b|c)|a": alt(a(), alt(b(), c()), a()), "(ab)c": cat(cat(a(), b()), c()), "a(bc)": cat(a(), cat(b(), c())), "a(bc)a": cat(a(), cat(b(), c()), a()),
		"ab|bc": alt(cat(a(), b()), cat(b(), c())), "(a|b)(b|c)": cat(alt(a(), b()), alt(b(), c())), "((a|b)|c)|a": alt(alt(alt(a(), b()), c()), a()), "((ab)c)a": cat(cat(cat(a(), b()), c()), a()),
		"a**": star(star(a())), "(ab)**": star(star(cat(a(), b()))), "(a*b)*": star(cat(star(a()), b())), "((ab)c)*": star(cat(cat(a(), b()), c())), "(ab|c)*": star(alt(cat(a(), b()), c())),
		"a*+?{2}{0,}": rep(rep(tree.Opt(tree.Plus(star(a()))), 2, 2), 0, -1), "()**": star(star(e())), "(()*|)?": tree.Opt(alt(star(e()), e())),
		"|a": alt(e(), a()), "a|": alt(a(), e()), "a||b": alt(a(), e(), b()), "||": alt(e(), e(), e()), "(|)|": alt(alt(e(), e()), e()), "|(|)": alt(e(), alt(e(), e())), "(a|)(|b)?": cat(alt(a(), e()), tree.Opt(alt(e(), b()))),
		"a()": cat(a(), e()), "()a": cat(e(), a()), "a()b": cat(a(), e(), b()), "(()())()": cat(cat(e(), e()), e()), "()()|": alt(cat(e(), e()), e()),
		`[^\x00-\xff]*`: star(tree.None()), `a[^\x00-\xff]|[^\x00-\xff]`: alt(cat(a(), tree.None()), tree.Bytes(api.Set{})),
	} {
		holdAs(t, x, text)
	}
}

// All trees of up to six nodes, each kind in each place.
func TestP802AllSmallTrees(t *testing.T) {
	// ofSize, rows: all trees, and all lists of trees, of so many nodes in all.
	ofSize := [][]api.Node{nil}
	rows := [][][]api.Node{{nil}}
	met := 0
	for n := 1; n <= 6; n++ {
		var l []api.Node
		if n == 1 {
			l = []api.Node{of(1), e(), a()}
		}
		for _, kids := range rows[n-1] {
			switch len(kids) {
			case 0:
			case 1:
				l = append(l, of(6, kids...), of(7, kids...), of(8, kids...), rep(kids[0], 7, 11))
			default:
				l = append(l, of(4, kids...), of(5, kids...))
			}
		}
		ofSize = append(ofSize, l)
		var made [][]api.Node
		for first := 1; first <= n; first++ {
			for _, x := range ofSize[first] {
				for _, others := range rows[n-first] {
					made = append(made, append([]api.Node{x}, others...))
				}
			}
		}
		rows = append(rows, made)
		for _, x := range l {
			holdShown(t, x)
		}
		met += len(l)
		if t.Failed() {
			return
		}
	}
	if met < 30000 {
		t.Errorf("there are only %d trees", met)
	}
}

func TestP802Numbers(t *testing.T) {
	for lo := range 1001 {
		for _, hi := range []int{-1, lo, lo + 1, (lo + 1001) / 2, 1000} {
			if hi > 1000 {
				continue
			}
			for _, x := range []api.Node{a(), e(), of(5, a(), b())} {
				l, err := Lexemes(rep(x, lo, hi))
				if err != api.OK || len(l) == 0 || l[len(l)-1] != (api.Lexeme{Kind: 8, Lo: lo, Hi: hi}) {
					t.Errorf("Lexemes of a KindRep from %d to %d = %v, %d", lo, hi, l, err)
				}
				holdShown(t, rep(x, lo, hi))
			}
		}
	}
	holdAs(t, rep(a(), 2, 2), "a{2}")
	holdAs(t, rep(a(), 0, -1), "a{0,}")
	holdAs(t, rep(a(), 1000, 1000), "a{1000}")
	holdAs(t, rep(a(), 999, 1000), "a{999,1000}")
	holdAs(t, rep(rep(a(), 0, 1), 1, -1), "a{0,1}{1,}")
}

func TestP802Sets(t *testing.T) {
	for n := range 256 {
		s := sets.Of(byte(n))
		for _, s := range []api.Set{s, sets.Not(s), sets.Span(byte(n), 255), sets.Span(0, byte(n))} {
			l, err := Lexemes(tree.Bytes(s))
			if !slices.Equal(l, []api.Lexeme{{Kind: 1, Set: s}}) || err != api.OK {
				t.Errorf("Lexemes of a set = %v, %d, want %v", l, err, s)
			}
			holdShown(t, tree.Bytes(s))
			holdShown(t, of(4, tree.Bytes(s), of(6, tree.Bytes(s)), of(5, tree.Bytes(s), tree.Bytes(s))))
		}
		holdAs(t, tree.Bytes(s), lexeme.Literal(byte(n)))
	}
	for text, s := range map[string]api.Set{".": sets.Not(sets.Of(10)), `[\x00-\xff]`: sets.All(), `[^\x00-\xff]`: {}, `\n`: sets.Of(10), "[a-c]": sets.Of('a', 'b', 'c'), "[^a]": sets.Not(sets.Of('a'))} {
		holdAs(t, tree.Bytes(s), text)
		holdAs(t, of(4, tree.Bytes(s), of(6, tree.Bytes(s))), text+text+"*")
	}
}

// Several of what repeats within each other, in every order, above each thing.
func TestP802Repeated(t *testing.T) {
	above := []func(x api.Node) (api.Node, string){
		func(x api.Node) (api.Node, string) { return of(6, x), "*" },
		func(x api.Node) (api.Node, string) { return of(7, x), "+" },
		func(x api.Node) (api.Node, string) { return of(8, x), "?" },
		func(x api.Node) (api.Node, string) { return rep(x, 0, 0), "{0}" },
		func(x api.Node) (api.Node, string) { return rep(x, 20, 1000), "{20,1000}" },
		func(x api.Node) (api.Node, string) { return rep(x, 3, -1), "{3,}" },
	}
	for _, thing := range things() {
		for i := range 216 {
			x, text := thing.x, thing.within(thing.inOther)
			for _, n := range []int{i % 6, i / 6 % 6, i / 36} {
				y, sign := above[n](x)
				x, text = y, text+sign
			}
			holdAs(t, x, text)
			holdAs(t, of(4, x, c()), text+"c")
			holdAs(t, of(5, c(), x), "c|"+text)
		}
	}
}

// chances: a row of numbers that is always the same.
func chances() func(most int) int {
	x := uint64(88172645463325252)
	return func(most int) int {
		x ^= x << 13
		x ^= x >> 7
		x ^= x << 17
		return int(x % uint64(most))
	}
}

// grown: a tree of n nodes that may be.
func grown(n int, next func(int) int) api.Node {
	switch {
	case n == 1:
		return []api.Node{of(1), e(), a(), b(), {Kind: 3}, tree.Bytes(sets.Not(sets.Of(10))), tree.Bytes(sets.Span(byte(next(99)), byte(99+next(99))))}[next(7)]
	case n == 2 || next(3) == 0:
		x := of(api.Kind(6+next(4)), grown(n-1, next))
		if x.Kind == 9 {
			x.Lo = next(1001)
			x.Hi = []int{-1, x.Lo, x.Lo + next(1001-x.Lo)}[next(3)]
		}
		return x
	}
	var l []api.Node
	for left := n - 1; left > 0; {
		some := 1 + next(left)
		if len(l) == 0 {
			some = 1 + next(left-1)
		}
		l = append(l, grown(some, next))
		left -= some
	}
	return of(api.Kind(4+next(2)), l...)
}

func TestP804RandomTrees(t *testing.T) {
	next := chances()
	long := 0
	for i := range 6000 {
		n := 1 + next(40)
		if i%10 == 0 {
			n = 1 + next(1500)
		}
		l := holdShown(t, grown(n, next))
		if len(l) > 1024 || deepest(l) > 64 {
			long++
		}
		if t.Failed() {
			return
		}
	}
	if long < 20 || long > 500 {
		t.Errorf("%d of the trees are too long", long)
	}
}

// with: a tree with the node at a place, counted from the top and the left, made another one.
func with(x api.Node, place int, y api.Node) api.Node {
	var made func(x api.Node) api.Node
	made = func(x api.Node) api.Node {
		here := place == 0
		place--
		l := make([]api.Node, len(x.Kids))
		for i, kid := range x.Kids {
			l[i] = made(kid)
		}
		x.Kids = l
		if here {
			return y
		}
		return x
	}
	return made(x)
}

// mayNot: trees that may not be, for what their first node is.
func mayNot() []api.Node {
	s := sets.Of('a')
	l := []api.Node{
		{}, of(10), of(-1), of(api.Kind(least)), of(api.Kind(greatest)), of(0, a()), of(10, a(), b()), of(11, a()), {Set: s},
		of(1, a()), of(2, a()), of(3, a()), {Kind: 3, Set: s, Kids: []api.Node{b()}}, of(1, a(), b()), of(2, a(), b()), of(3, a(), b()),
		of(4), of(5), of(4, a()), of(5, a()), of(6), of(7), of(8), of(9), of(6, a(), b()), of(7, a(), b()), of(8, a(), b()), of(9, a(), b()), of(6, a(), a(), a()),
		{Kind: 1, Set: sets.Of(0)}, {Kind: 2, Set: sets.Of(255)},
		{Kind: 1, Lo: 1}, {Kind: 1, Hi: -1}, {Kind: 2, Hi: 1}, {Kind: 2, Hi: -1}, {Kind: 3, Set: s, Lo: 1}, {Kind: 3, Hi: -1},
	}
	for kind := api.Kind(4); kind <= 9; kind++ {
		kids := []api.Node{a(), b()}
		if kind > 5 {
			kids = kids[:1]
		}
		l = append(l, api.Node{Kind: kind, Set: s, Kids: kids})
		if kind < 9 {
			l = append(l, api.Node{Kind: kind, Kids: kids, Lo: 1}, api.Node{Kind: kind, Kids: kids, Hi: -1}, api.Node{Kind: kind, Kids: kids, Lo: 2, Hi: 2})
		}
	}
	for _, ends := range [][2]int{{3, 2}, {1, 0}, {0, -2}, {5, -2}, {-1, -1}, {-1, 0}, {-1, 5}, {-2, -2}, {1001, -1}, {1001, 1001}, {0, 1001}, {1000, 1001}, {1000, 999}, {least, -1}, {greatest, -1}, {0, greatest}, {0, least}, {greatest, greatest}, {least, least}} {
		l = append(l, rep(a(), ends[0], ends[1]))
	}
	return l
}

// chain: n nodes, each the one kid of the one ahead, the last one an a.
func chain(n int) api.Node {
	x := a()
	for i := 1; i < n; i++ {
		x = of(api.Kind(6+i%3), x)
		if i%4 == 0 {
			x.Kind, x.Lo, x.Hi = 9, i%1000, -1
		}
	}
	return x
}

// beside: n nodes: all but the first are its Kids, and all alike.
func beside(kind api.Kind, n int, kid api.Node) api.Node {
	return of(kind, slices.Repeat([]api.Node{kid}, n-1)...)
}

// nested: n nodes of a kind within each other, the inner one the first kid, or the last one.
func nested(kind api.Kind, n int, first bool) api.Node {
	x := a()
	for range n {
		if first {
			x = of(kind, x, b())
		} else {
			x = of(kind, b(), x)
		}
	}
	return x
}

func TestP802MayNotBe(t *testing.T) {
	around := []api.Node{
		of(4, a(), b()), of(5, e(), of(1), a()), of(6, of(7, of(8, rep(a(), 2, 3)))), of(4, of(6, a()), of(5, of(4, a(), b()), e()), c()), chain(30), beside(4, 30, a()), nested(5, 10, true), nested(4, 10, false),
		// Where there are too many lexemes, or brackets, too.
		nested(5, 70, true), nested(4, 70, false),
	}
	for _, x := range mayNot() {
		holdWrong(t, x, api.ErrKind)
		for _, y := range around {
			for place := range tree.Size(y) {
				holdWrong(t, with(y, place, x), api.ErrKind)
			}
		}
		for _, y := range []api.Node{beside(5, 2000, a()), beside(4, 3000, e()), chain(3000)} {
			for _, place := range []int{0, 1, 1000, tree.Size(y) - 1} {
				holdWrong(t, with(y, place, x), api.ErrKind)
			}
		}
	}
}

func TestP802TooManyNodes(t *testing.T) {
	for _, n := range []int{4095, 4096} {
		for _, x := range []api.Node{chain(n), beside(4, n, a()), beside(5, n, a()), beside(4, n, e()), beside(5, n, e()), beside(5, n, of(1))} {
			holdWrong(t, x, api.ErrLong)
		}
	}
	holdWrong(t, nested(4, 2047, true), api.ErrLong)
	holdWrong(t, nested(5, 2047, false), api.ErrLong)
	for _, x := range []api.Node{chain(4097), chain(60000), beside(4, 4097, a()), beside(5, 4097, e()), beside(5, 1<<18, a()), nested(4, 2048, true), nested(5, 2048, false), nested(4, 30000, true)} {
		holdWrong(t, x, api.ErrKind)
	}
	// Both Kids of a node are one and the same memory: few nodes are made, and very many met.
	x := a()
	for range 29 {
		x = of(4, x, x)
	}
	holdWrong(t, x, api.ErrKind)
}

// As many lexemes as may be, one less, and one more, by each kind of tree.
func TestP802Long(t *testing.T) {
	for _, n := range []int{1022, 1023, 1024, 1025, 1026, 2000, 4000} {
		// Each of these has n lexemes.
		l := []api.Node{beside(4, n+1, a()), beside(4, n+1, of(1)), chain(n), of(4, chain(n-1), c()), of(4, beside(4, n-2, a()), c()), of(5, beside(4, n-1, a()), c()), of(6, beside(4, n-2, a())), of(8, of(4, beside(4, n-6, a()), e()))}
		if n <= 2000 {
			l = append(l, beside(5, n+2, e()), of(6, beside(5, n-1, e())), of(5, beside(5, n-2, e()), a()))
		}
		for i, x := range l {
			want := holdShown(t, x)
			if len(want) != n || !tree.Right(x) {
				t.Errorf("tree %d has %d lexemes, and not %d", i, len(want), n)
			}
			if n > 1024 {
				holdWrong(t, x, api.ErrLong)
			}
		}
	}
	// n KindEmpty have twice as many lexemes, and so on.
	for n := 2; n < 1100; n += 1 + n%7 {
		holdShown(t, beside(4, n+1, e()))
		holdShown(t, beside(5, n+1, a()))
		holdShown(t, beside(5, n+1, e()))
		holdShown(t, beside(4, n+1, of(5, e(), e())))
		holdShown(t, beside(4, n+1, of(6, a())))
		holdShown(t, beside(5, n+1, rep(a(), 7, -1)))
	}
	if l, err := Lexemes(beside(4, 513, e())); len(l) != 1024 || err != api.OK {
		t.Errorf("Lexemes of 512 KindEmpty = %s, %d", brief(l), err)
	}
	holdWrong(t, beside(4, 514, e()), api.ErrLong)
	if l, err := Lexemes(beside(5, 1026, e())); len(l) != 1024 || err != api.OK {
		t.Errorf("Lexemes of 1025 KindEmpty with | between = %s, %d", brief(l), err)
	}
	holdWrong(t, beside(5, 1027, e()), api.ErrLong)
}

// As many brackets within each other as may be, and one more.
func TestP802Deep(t *testing.T) {
	for n := 1; n <= 70; n++ {
		for _, first := range []bool{true, false} {
			// Of n nodes the outer one needs no brackets.
			alt, cat := nested(5, n, first), nested(4, n, first)
			for i, x := range []api.Node{alt, cat, of(4, alt, c()), of(5, c(), alt), of(5, cat, c()), of(6, alt), rep(cat, 2, 2), of(5, of(6, of(7, alt)), c())} {
				deep := []int{n - 1, n - 1, n, n, n - 1, n, n, n}[i]
				if got := deepest(holdShown(t, x)); got != deep {
					t.Errorf("tree %d of %d has brackets %d deep, and not %d", i, n, got, deep)
				}
				if deep > 64 {
					holdWrong(t, x, api.ErrLong)
				} else if _, err := Lexemes(x); err != api.OK {
					t.Errorf("Lexemes of tree %d of %d tells %d", i, n, err)
				}
			}
		}
	}
	x := a()
	for range 64 {
		x = of(6, of(5, x, e()))
	}
	if _, err := Lexemes(x); err != api.OK {
		t.Errorf("Lexemes of brackets 64 deep tells %d", err)
	}
	holdWrong(t, of(6, of(5, x, e())), api.ErrLong)
	// What repeats needs no brackets, however deep it is.
	holdAs(t, chain(1), "a")
	if l, err := Lexemes(chain(1024)); len(l) != 1024 || err != api.OK {
		t.Errorf("Lexemes of a chain of 1024 = %s, %d", brief(l), err)
	}
}

// sized: sets whose classes are so many bytes long.
func sized(t *testing.T, n int) api.Node {
	t.Helper()
	var s api.Set
	for i := range (n - 2) / 4 {
		s = sets.Union(s, sets.Of(byte(128+2*i)))
	}
	for i := range (n - 2) % 4 {
		s = sets.Union(s, sets.Of("ace"[i]))
	}
	x := tree.Bytes(s)
	text, err := lexeme.Join([]api.Lexeme{{Kind: 1, Set: s}})
	if len(text) != n || err != api.OK {
		t.Fatalf("the class has %d bytes, and not %d", len(text), n)
	}
	return x
}

func TestP803LongText(t *testing.T) {
	class := func(n int) []api.Node { return slices.Repeat([]api.Node{sized(t, n)}, 1023) }
	for extra := -3; extra <= 5; extra++ {
		for _, x := range []api.Node{of(4, append(class(64), sized(t, 64+extra))...), of(4, append([]api.Node{sized(t, 64+extra)}, class(64)...)...)} {
			l := holdShown(t, x)
			if got, err := Lexemes(x); !slices.Equal(got, l) || err != api.OK || len(l) != 1024 {
				t.Errorf("Lexemes of long classes tells %d", err)
			}
			text, err := Text(x)
			if extra <= 0 && (len(text) != 65536+extra || err != api.OK) || extra > 0 && (text != "" || err != api.ErrLong) {
				t.Errorf("Text of %d bytes and %d more = %.60q, %d", 65536, extra, text, err)
			}
		}
	}
	// As many lexemes as may be, of each kind, in as many bytes as may be, and in one more of them.
	x := of(6, of(5, append(slices.Repeat([]api.Node{sized(t, 127)}, 510), sized(t, 252))...))
	for extra := range 3 {
		x.Kids[0].Kids[510] = sized(t, 252+extra)
		text, err := Text(x)
		if extra < 2 && (len(text) != 65535+extra || err != api.OK) || extra == 2 && (text != "" || err != api.ErrLong) {
			t.Errorf("Text of %d bytes = %.60q, %d", 65535+extra, text, err)
		}
		if got := holdShown(t, x); len(got) != 1024 {
			t.Errorf("there are %d lexemes, and not 1024", len(got))
		}
	}
	x = beside(4, 513, sized(t, 128))
	if text, err := Text(x); len(text) != 65536 || err != api.OK {
		t.Errorf("Text has %d bytes, %d", len(text), err)
	}
	if text, err := Text(of(4, append(x.Kids, a())...)); text != "" || err != api.ErrLong {
		t.Errorf("Text of one byte more = %.60q, %d", text, err)
	}
	if text, err := Text(beside(4, 1025, sized(t, 250))); text != "" || err != api.ErrLong {
		t.Errorf("Text of far more bytes = %.60q, %d", text, err)
	}
	// What Lexemes tells comes ahead.
	holdWrong(t, beside(4, 1026, sized(t, 250)), api.ErrLong)
	holdWrong(t, with(x, 5, of(6)), api.ErrKind)
	holdWrong(t, with(beside(4, 1025, sized(t, 250)), 1024, api.Node{}), api.ErrKind)
}

// A text as long as may be, of classes that are written in one byte more: its tree has no text.
func TestP803ClassesGrow(t *testing.T) {
	const class = `[^!!!#%')+\-/13579;=?ACEGIKMOQSUWY\[\]_acegikmoqsuwy{}\xa0-\xff]`
	text := strings.Repeat(class, 1024)
	x, bad := parse.Text([]byte(text))
	if len(text) != 65536 || bad != (api.Bad{}) {
		t.Fatalf("the text of %d bytes is told %v", len(text), bad)
	}
	holdShown(t, x)
	if l, err := Lexemes(x); len(l) != 1024 || err != api.OK {
		t.Errorf("Lexemes = %s, %d", brief(l), err)
	}
	for n, want := range map[int]int{2: 130, 1008: 65520, 1009: 0, 1024: 0} {
		if got, err := Text(of(4, x.Kids[:n]...)); len(got) != want || (want == 0) != (err == api.ErrLong) {
			t.Errorf("Text of %d classes has %d bytes, %d, want %d", n, len(got), err, want)
		}
	}
}

// holdShort: of a right text's tree there are no more lexemes than of the text, whose tree it is again.
func holdShort(t *testing.T, l []api.Lexeme) bool {
	t.Helper()
	x, bad := parse.Lexemes(l)
	if bad != (api.Bad{}) {
		return false
	}
	got, err := Lexemes(x)
	if len(got) > len(l) || err != api.OK {
		t.Errorf("Lexemes of the tree of %s = %s, %d", brief(l), brief(got), err)
	}
	text, err := Text(x)
	if err != api.OK {
		t.Errorf("Text of the tree of %s tells %d", brief(l), err)
		return true
	}
	short, wrong := lexeme.Split([]byte(text))
	if len(short) > len(l) || wrong != (api.Bad{}) {
		t.Errorf("Text of the tree of %s = %.60q", brief(l), text)
	}
	y, bad := parse.Text([]byte(text))
	if !tree.Same(x, y) || bad != (api.Bad{}) {
		t.Errorf("parse.Text(%.60q) = %s, %v, want %s", text, brief(y), bad, brief(x))
	}
	return true
}

// All right rows of up to six lexemes, one of each kind.
func TestP805AllShortRows(t *testing.T) {
	letters := []api.Lexeme{{Kind: 1, Set: sets.Of('a')}, {Kind: 2}, {Kind: 3}, {Kind: 4}, {Kind: 5}, {Kind: 6}, {Kind: 7}, {Kind: 8, Lo: 2, Hi: -1}}
	rows := [][]api.Lexeme{{}}
	right := 0
	for range 6 {
		var longer [][]api.Lexeme
		for _, l := range rows {
			for _, x := range letters {
				longer = append(longer, append(slices.Clone(l), x))
			}
		}
		for _, l := range longer {
			if holdShort(t, l) {
				right++
			}
		}
		if t.Failed() {
			return
		}
		rows = longer
	}
	if right < 5000 {
		t.Errorf("only %d rows are right", right)
	}
}

// wordy: the lexemes of a right text, with about n of them and many brackets, at most so deep.
func wordy(next func(int) int, n, deep int) []api.Lexeme {
	var l []api.Lexeme
	for len(l) < n {
		switch kind := next(12); {
		case kind < 2:
			l = append(l, api.Lexeme{Kind: 1, Set: sets.Of(byte('a' + next(3)))})
		case kind < 6 && deep > 0:
			l = append(l, api.Lexeme{Kind: 2})
			l = append(l, wordy(next, next(n-len(l)+1), deep-1)...)
			l = append(l, api.Lexeme{Kind: 3})
		case kind < 7:
			l = append(l, api.Lexeme{Kind: 4})
		case len(l) > 0 && l[len(l)-1].Kind != 4:
			lo := next(1001)
			l = append(l, []api.Lexeme{{Kind: 5}, {Kind: 6}, {Kind: 7}, {Kind: 8, Lo: lo, Hi: -1}, {Kind: 8, Lo: lo, Hi: lo + next(1001-lo)}}[next(5)])
		}
	}
	return l
}

func TestP805RandomTexts(t *testing.T) {
	next := chances()
	right := 0
	for i := range 4000 {
		if holdShort(t, wordy(next, next(2+3*i%700), 1+i%64)) {
			right++
		}
		if t.Failed() {
			return
		}
	}
	if right < 3500 {
		t.Errorf("only %d texts are right", right)
	}
}

// Brackets that are not needed go, those that are needed stay.
func TestP805Brackets(t *testing.T) {
	for text, want := range map[string]string{
		"": "", "()": "", "(())": "", "(a)": "a", "((a))": "a", "(ab)": "ab", "(a|b)": "a|b", "((a)|(b))": "a|b", "(((a)|(b)))": "a|b", "((a|b)|c)": "(a|b)|c", "(ab)c": "(ab)c", "((ab)c)": "(ab)c", "(ab)|c": "ab|c", "a|(bc)": "a|bc", "a|(bc)|(a)": "a|bc|a",
		"(a)*": "a*", "(a*)": "a*", "(a*)*": "a**", "((a)+)?": "a+?", "(a){2,2}": "a{2}", "((ab))*": "(ab)*", "((a|b))*": "(a|b)*", "(a*)b": "a*b", "a(b*)c": "ab*c", "(a)(b)": "ab", "((a)(b))*": "(ab)*",
		"()|a": "|a", "a|()": "a|", "()|()": "|", "(|)": "|", "(()|())": "|", "a()": "a()", "(a())": "a()", "(())a": "()a", "(())*": "()*", "(()*)": "()*", "()()": "()()", "(a|)(|b)?": "(a|)(|b)?", "(()|a)*": "(|a)*",
		"[a]": "a", `[^\n]`: ".", `\x41\.`: `A\.`, "(.)": ".", "([a-c])*": "[a-c]*", "(ab){0,}": "(ab){0,}", `(\()`: `\(`, "[ab]{3,3}": "[ab]{3}",
	} {
		x, bad := parse.Text([]byte(text))
		if bad != (api.Bad{}) {
			t.Fatalf("parse.Text(%q) tells %v", text, bad)
		}
		holdAs(t, x, want)
		holdShort(t, row(t, text))
		deep := 64 - deepest(row(t, text))
		x, bad = parse.Text([]byte(strings.Repeat("(", deep) + text + strings.Repeat(")", deep)))
		if bad != (api.Bad{}) {
			t.Fatalf("parse.Text(%q) between %d brackets tells %v", text, deep, bad)
		}
		holdAs(t, x, want)
	}
	// As many lexemes, and as deep, as may be.
	for _, text := range []string{strings.Repeat("a", 1024), strings.Repeat("()", 512), strings.Repeat("|", 1024), strings.Repeat("(a)", 341), strings.Repeat("(a|b)*", 170), strings.Repeat("(|)", 341), "a" + strings.Repeat("*", 1023), strings.Repeat("(a|", 64) + strings.Repeat("a*", 384) + strings.Repeat(")", 64), strings.Repeat("(", 64) + strings.Repeat("ab", 32) + strings.Repeat("c)*", 64), strings.Repeat("(a", 64) + strings.Repeat("a)", 64)} {
		if !holdShort(t, row(t, text)) {
			t.Errorf("%.60q is not right", text)
		}
	}
}

// dump writes all of a tree, with the room behind its lists.
func dump(l []api.Node) string {
	text := ""
	for _, x := range l[:cap(l)] {
		text += fmt.Sprint("<", x.Kind, x.Set, x.Lo, x.Hi, len(x.Kids), dump(x.Kids), ">")
	}
	return text
}

// roomy: the same trees, in lists that have room behind them, with a mark in it.
func roomy(l []api.Node) []api.Node {
	made := make([]api.Node, len(l)+2)
	for i, x := range l {
		made[i] = x
		made[i].Kids = roomy(x.Kids)
	}
	made[len(l)] = api.Node{Kind: 55, Lo: 5}
	made[len(l)+1] = api.Node{Kind: 4, Lo: 6}
	return made[:len(l)]
}

func TestP801ArgumentsStay(t *testing.T) {
	l := mayNot()
	for _, x := range things() {
		l = append(l, x.x, of(4, x.x, of(6, x.x), of(5, x.x, e())))
	}
	l = append(l, nested(5, 64, true), nested(4, 70, false), chain(1024), chain(1025), beside(4, 1025, a()), beside(4, 1100, e()), beside(4, 1025, sized(t, 200)))
	for _, x := range l {
		some := roomy([]api.Node{x})
		kept := dump(some)
		Lexemes(some[0])
		Text(some[0])
		if got := dump(some); got != kept {
			t.Errorf("%.300s became %.300s", kept, got)
		}
		if tree.Right(x) {
			holdShown(t, some[0])
		} else {
			holdWrong(t, some[0], api.ErrKind)
		}
	}
}

// scribble writes over all that lies in lists, and behind them.
func scribble(l []api.Node) {
	l = l[:cap(l)]
	for i := range l {
		scribble(l[i].Kids)
		l[i] = api.Node{Kind: 77, Set: sets.All(), Lo: 7, Hi: 7}
	}
}

func TestP801NewMemory(t *testing.T) {
	for _, x := range []api.Node{a(), of(1), of(6, e()), of(4, of(5, a(), b()), rep(a(), 2, 3)), chain(500), beside(4, 200, of(5, a(), e())), nested(4, 64, true)} {
		want := shown(nil, x)
		text, _ := Text(x)
		l := []api.Node{tree.Copy(x)}
		first, _ := Lexemes(l[0])
		second, _ := Lexemes(l[0])
		room := first[:cap(first)]
		for i := range room {
			room[i] = api.Lexeme{Kind: 99, At: -5, Lo: 3}
		}
		if !tree.Same(l[0], x) {
			t.Errorf("the answer to %s shares memory with the tree", brief(x))
		}
		scribble(l)
		if !slices.Equal(second, want) {
			t.Errorf("the answer to %s became %s", brief(x), brief(second))
		}
		holdShown(t, x)
		if again, err := Text(x); again != text || err != api.OK {
			t.Errorf("Text(%s) = %.60q, %d, and before %.60q", brief(x), again, err, text)
		}
	}
}

// Trees of whatever there is: nothing panics, and what may not be is told.
func TestP801WhateverIsHandedIn(t *testing.T) {
	next := chances()
	numbers := []int{least, -1001, -2, -1, 0, 1, 2, 7, 1000, 1001, 1 << 40, greatest}
	var made func(deep int) api.Node
	made = func(deep int) api.Node {
		x := api.Node{Kind: api.Kind(next(11))}
		switch next(12) {
		case 0:
			x.Kind = api.Kind(numbers[next(12)])
		case 1:
			x.Set = sets.Of(byte(next(256)))
		case 2:
			x.Lo, x.Hi = numbers[next(12)], numbers[next(12)]
		case 3:
			x.Kids = []api.Node{}
		}
		few := []int{0, 0, 0, 0, 2, 2, 1, 1, 1, 1, 1}[max(0, min(10, x.Kind))]
		if next(9) == 0 {
			few = next(4)
		}
		for range few {
			if deep > 0 {
				x.Kids = append(x.Kids, made(deep-1))
			} else {
				x.Kids = append(x.Kids, a())
			}
		}
		return x
	}
	right := 0
	for range 50000 {
		x := made(next(4))
		if tree.Right(x) {
			right++
			holdShown(t, x)
		} else {
			holdWrong(t, x, api.ErrKind)
		}
	}
	if right < 3000 {
		t.Errorf("only %d trees may be", right)
	}
}

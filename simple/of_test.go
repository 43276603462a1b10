package simple

import (
	"testing"

	"doublet/api"
	"doublet/sample"
	"doublet/sets"
	"doublet/texts"
	"doublet/tree"
)

// nothing: a class of no byte, as a text.
const nothing = texts.Nothing

func TestP1203Alone(t *testing.T) {
	holdOf(t, none(), none())
	holdOf(t, e(), e())
	holdOf(t, hole(), none())
	holdOf(t, a(), a())
	holdOf(t, ofSet(sets.All()), ofSet(sets.All()))
	for n := range 256 {
		one := sets.Of(byte(n))
		holdOf(t, ofSet(one), ofSet(one))
		holdOf(t, ofSet(sets.Not(one)), ofSet(sets.Not(one)))
	}
	ab, either := of(4, a(), b()), of(5, of(6, a()), b())
	for _, x := range []api.Node{ab, either, of(6, a()), of(7, a()), of(8, a()), times(a(), 2, 3), of(6, ab), of(7, either), of(8, ab), times(either, 0, 2), of(5, e(), a()), of(4, either, ab.Kids[0])} {
		holdOf(t, x, x)
	}
	for _, x := range eachKind() {
		holdOf(t, x, x)
	}
}

// Texts, and what their trees become.
func TestP1203WrittenOut(t *testing.T) {
	for _, r := range [][2]string{
		{"(a|b|a)(()c*)+", "[ab]c*"},
		// Rows.
		{"a", "a"}, {"a()b", "ab"}, {"(ab)(c(d))", "abcd"}, {"()", ""}, {"()()", ""}, {"()(())", ""}, {"()a", "a"}, {"((a)b)((c))", "abc"}, {"(a(bc)d)(e(f()g))h", "abcdefgh"}, {"a*a*", "a*a*"}, {"aa*", "aa*"}, {"(ab)?(ab)", "(ab)?ab"},
		// Choices.
		{"a|b", "[ab]"}, {"a|(b|a)", "[ab]"}, {"(a|b)|c", "[a-c]"}, {"ab|ab|()", "ab|"}, {"a|a", "a"}, {"ab|ab", "ab"}, {"a|", "a|"}, {"|a", "|a"}, {"|", ""}, {"||", ""}, {"|a|", "|a"}, {"c|ab|d", "[cd]|ab"}, {"ab|c|d", "ab|[cd]"}, {"(a|)(|a)", "(a|)(|a)"},
		{"ab|(cd|ab|(cd|ef))", "ab|cd|ef"}, {"(ab|c)|(d|ab)", "ab|[cd]"}, {"a(b|c)|a(c|b)", "a[bc]"}, {"a*|(a*)", "a*"}, {"a*|a**", "a*"}, {"a{1}|a", "a"}, {"ab|a()b|(ab){1}", "ab"}, {"ab|ba", "ab|ba"}, {"a?|a|()", "a?|a|"},
		// What says no word.
		{nothing, nothing}, {"a" + nothing + "b", nothing}, {"a|" + nothing, "a"}, {nothing + "|" + nothing, nothing}, {nothing + "|a|b", "[ab]"}, {nothing + "*", ""}, {nothing + "+", nothing}, {nothing + "?", ""}, {nothing + "{0,5}", ""}, {nothing + "{1,5}", nothing}, {nothing + "{2,}", nothing}, {"(a" + nothing + ")*b", "b"}, {"(a" + nothing + "|b)c", "bc"}, {"(a*" + nothing + "){0,}", ""},
		// One, so many times.
		{"a**", "a*"}, {"a+*", "a*"}, {"a?*", "a*"}, {"a*+", "a*"}, {"a++", "a+"}, {"a?+", "a*"}, {"a*?", "a*"}, {"a+?", "a*"}, {"a??", "a?"}, {"a*+?*+?", "a*"}, {"a?????", "a?"}, {"a+++", "a+"}, {"a?+?", "a*"},
		{"()*", ""}, {"()+", ""}, {"()?", ""}, {"(){3}", ""}, {"(()*()+)?", ""}, {"(ab())*", "(ab)*"}, {"(a|b)*", "[ab]*"}, {"(a*)(b*)*", "a*b*"}, {"(a*b*)*", "(a*b*)*"}, {"(a|)*", "(a|)*"}, {"(a|)?", "(a|)?"},
		{"a{1}", "a"}, {"a{0}", ""}, {"a{0,}", "a*"}, {"a{1,}", "a+"}, {"a{0,1}", "a?"}, {"(a?){1,}", "a*"}, {"(a+){0,1}", "a*"}, {"(a{0,1}){0,1}", "a?"}, {"(a{1,}){1,}", "a+"}, {"a{2,3}", "a{2,3}"}, {"a{2}{3}", "a{2}{3}"}, {"(a{1}){2}", "a{2}"}, {"(a{2}){1}", "a{2}"}, {"a**{2}", "(a*){2}"}, {"(a|b){0}c", "c"}, {"(ab){1}(cd){1,1}", "abcd"}, {"(ab){1}|(cd|e){1}|f", "ab|cd|[ef]"}, {"a{0,2}?", "(a{0,2})?"},
		// Deep within.
		{"((a()|a){1}*)+?", "a*"}, {"x(y(z()(w)))*", "x(yzw)*"}, {"(((a|b)|(c|d))*|(e|" + nothing + "))+", "([a-d]*|e)+"}, {"(a(" + nothing + "|)b|ab)*", "(ab)*"}, {"((ab|)|(|ab))?", "(ab|)?"}, {"(((((a)))))", "a"}, {"((((()a)))b)", "ab"}, {"((a{0}b{1}){1,}c{0,1}){0,}", "(b+c?)*"},
	} {
		want := read(r[1])
		if r[1] == nothing {
			want = none()
		}
		holdOf(t, read(r[0]), want)
	}
}

// Each thing as the kid of each kind, as the first, a middle and the last one, beside each other thing.
func TestP1203KidOfEachKind(t *testing.T) {
	t.Parallel()
	for _, x := range sample.Things() {
		holdOf(t, x, modelled(x))
		for _, y := range sample.Above(x) {
			holdOf(t, y, modelled(y))
			for _, z := range sample.Above(y) {
				holdOf(t, z, modelled(z))
			}
		}
		for _, y := range sample.Things() {
			for _, kind := range []api.Kind{4, 5} {
				for _, z := range []api.Node{of(kind, x, y), of(kind, x, y, c()), of(kind, c(), x, y), of(kind, y, x, of(8, c())), of(kind, of(4, x, y), of(5, x, y)), of(kind, c(), of(kind, x, of(kind, y, c()))), of(6, of(kind, x, y)), of(7, of(kind, x, x)), of(8, of(kind, y, x)), times(of(kind, y, x), 2, -1), times(of(kind, x, y), 0, 1)} {
					holdOf(t, z, modelled(z))
				}
			}
		}
		if t.Failed() {
			return
		}
	}
}

// KindSet of no byte, within each kind: it is as KindNone is; and with bytes.
func TestP1203Sets(t *testing.T) {
	ab := of(4, a(), b())
	for _, x := range []api.Node{hole(), none()} {
		for _, y := range []api.Node{x, of(4, x, a()), of(4, a(), x), of(4, a(), x, b()), of(4, e(), x), of(5, x, x), of(5, x, none(), hole()), of(7, x), times(x, 1, 1), times(x, 1, -1), times(x, 2, 3), times(x, 1000, 1000), of(4, of(6, a()), times(of(4, b(), x), 1, 2))} {
			holdOf(t, y, none())
		}
		for _, y := range []api.Node{of(6, x), of(8, x), times(x, 0, 0), times(x, 0, 1), times(x, 0, -1), times(x, 0, 1000), of(5, x, e()), of(5, e(), x), of(4, of(6, x), of(8, x)), of(6, of(7, x)), of(7, of(6, x))} {
			holdOf(t, y, e())
		}
		for _, y := range []api.Node{of(5, x, ab), of(5, ab, x), of(5, ab, x, ab), of(4, of(6, x), ab), of(4, a(), of(8, x), b()), times(of(5, x, ab), 1, 1)} {
			holdOf(t, y, ab)
		}
		// It keeps no place for the others of KindSet.
		holdOf(t, of(5, x, ab, a(), b()), of(5, ab, chars("ab")))
		holdOf(t, of(5, x, of(6, x), b()), of(5, e(), b()))
	}
	for _, s := range []api.Set{sets.Of('x'), sets.All(), sets.Of(0), sets.Of(255), sets.Not(sets.Of(10)), sets.Span(63, 128)} {
		x := ofSet(s)
		for _, y := range []api.Node{x, of(4, x, a()), of(4, a(), x, x), of(6, x), of(7, x), of(8, x), times(x, 2, 3), of(5, of(6, x), x), of(5, x, e())} {
			holdOf(t, y, y)
		}
		holdOf(t, of(5, x, b()), ofSet(sets.Union(s, sets.Of('b'))))
		holdOf(t, of(5, b(), of(6, x), x), of(5, ofSet(sets.Union(s, sets.Of('b'))), of(6, x)))
		holdOf(t, of(5, x, ofSet(sets.Not(s))), ofSet(sets.All()))
	}
}

// different: n trees of two nodes each, up to 80000 of them, no two of which are the same; all are simple.
func different(n int) []api.Node {
	l := make([]api.Node, n)
	for i := range l {
		l[i] = times(a(), 2+i%900, 1000-i/900)
	}
	return l
}

// As many nodes as may be, one beside the other.
func TestP1203Wide(t *testing.T) {
	for kid, want := range map[string]struct{ cat, alt api.Node }{
		"a":        {sample.Beside(4, 4096, a()), a()},
		"":         {e(), e()},
		nothing:    {none(), none()},
		"a{1}":     {sample.Beside(4, 2048, a()), a()},
		"a**":      {sample.Beside(4, 1366, of(6, a())), of(6, a())},
		"a|b":      {sample.Beside(4, 1366, chars("ab")), chars("ab")},
		"ab":       {sample.Beside(4, 2731, a()), of(4, a(), b())},
		"()a()":    {sample.Beside(4, 1024, a()), a()},
		"(ab){2}*": {sample.Beside(4, 820, of(6, times(of(4, a(), b()), 2, 2))), of(6, times(of(4, a(), b()), 2, 2))},
	} {
		x := read(kid)
		n := 4095 / tree.Size(x)
		if kid == "ab" {
			want.cat = of(4)
			for range n {
				want.cat.Kids = append(want.cat.Kids, a(), b())
			}
		}
		l := sample.Beside(4, n+1, x).Kids
		holdOf(t, of(4, l...), want.cat)
		holdOf(t, of(5, l...), want.alt)
	}
	l := different(2047)
	holdOf(t, of(4, l...), of(4, l...))
	holdOf(t, of(5, l...), of(5, l...))
	holdOf(t, of(5, append(l[:1023:1023], l[:1023]...)...), of(5, l[:1023]...))
	// All bytes, each some sixteen times, among others.
	l = nil
	for n := range 4000 {
		l = append(l, ofSet(sets.Of(byte(n*7))))
	}
	l[77] = of(6, c())
	holdOf(t, of(5, l...), of(5, ofSet(sets.All()), of(6, c())))
}

// As many nodes as may be, one above the other.
func TestP1203Deep(t *testing.T) {
	for _, n := range []int{2, 3, 100, 4095, 4096} {
		holdOf(t, again(n, 6), of(6, a()))
		holdOf(t, again(n, 7), of(7, a()))
		holdOf(t, again(n, 8), of(8, a()))
		for _, r := range []struct {
			lo, hi int
			want   api.Node
		}{{0, 0, e()}, {1, 1, a()}, {0, 1, of(8, a())}, {0, -1, of(6, a())}, {1, -1, of(7, a())}} {
			holdOf(t, sample.Within(n, a(), func(x api.Node) api.Node { return times(x, r.lo, r.hi) }), r.want)
		}
		stays := sample.Within(n, a(), func(x api.Node) api.Node { return times(x, 2, 3) })
		holdOf(t, stays, stays)
		holdOf(t, sample.Within(n, none(), func(x api.Node) api.Node { return times(x, 2, 3) }), none())
		holdOf(t, sample.Within(n, e(), func(x api.Node) api.Node { return times(x, 2, -1) }), e())
		holdOf(t, sample.Chain(n), modelled(sample.Chain(n)))
	}
	for _, n := range []int{1, 2, 100, 1365, 2047} {
		ahead, behind := of(4, a()), of(4)
		for range n {
			ahead.Kids, behind.Kids = append(ahead.Kids, b()), append(behind.Kids, b())
		}
		behind.Kids = append(behind.Kids, a())
		holdOf(t, sample.Nested(4, n, true), ahead)
		holdOf(t, sample.Nested(4, n, false), behind)
		holdOf(t, sample.Nested(5, n, true), chars("ab"))
		holdOf(t, sample.Nested(5, n, false), chars("ab"))
	}
	star := sample.Within(1365, of(6, a()), func(x api.Node) api.Node { return of(6, of(4, a(), x)) })
	holdOf(t, star, star)
	holdOf(t, sample.Within(1366, a(), func(x api.Node) api.Node { return of(6, of(4, e(), x)) }), of(6, a()))
	holdOf(t, sample.Within(1366, a(), func(x api.Node) api.Node { return of(8, of(5, none(), x)) }), of(8, a()))
	both := sample.Within(1000, of(6, a()), func(x api.Node) api.Node { return of(5, of(4, b(), x), e()) })
	holdOf(t, both, both)
}

// Choices within choices, of many parts that differ, and of such as do not.
func TestP1203DeepAndWide(t *testing.T) {
	l := different(1365)
	ahead, behind := l[0], l[0]
	for _, x := range l[1:] {
		ahead, behind = of(5, ahead, x), of(5, x, behind)
	}
	holdOf(t, ahead, of(5, l...))
	back := of(5)
	for i := range l {
		back.Kids = append(back.Kids, l[len(l)-1-i])
	}
	holdOf(t, behind, back)
	once := l[0]
	for i := range 1000 {
		once = times(of(5, once, l[i%10]), 1, 1)
	}
	holdOf(t, once, of(5, l[:10]...))
	// Two by two, up to one.
	for len(l) > 1 {
		var next []api.Node
		for i := 0; i+1 < len(l); i += 2 {
			next = append(next, of(5, l[i], l[i+1]))
		}
		l = next
	}
	holdOf(t, l[0], of(5, different(1024)...))
}

// Each fault at the root, and at each place of other trees.
func TestP1203ErrKind(t *testing.T) {
	t.Parallel()
	for x := range sample.Faults() {
		if holdWrong(t, x); t.Failed() {
			return
		}
	}
	// In parts that would be left out.
	for _, x := range sample.MayNot() {
		for _, y := range []api.Node{
			of(4, none(), x), of(4, x, none()), of(4, hole(), of(6, x)), of(5, none(), x), of(5, of(4, none(), x), a()), of(5, x, x), of(5, of(6, x), of(6, x)), of(5, a(), of(6, a()), x), of(6, of(4, none(), x)), times(x, 0, 0), times(of(4, a(), x), 0, 0), of(4, times(x, 0, 0), a()), of(4, e(), of(8, of(4, x, hole()))),
		} {
			holdWrong(t, y)
		}
	}
}

// One node more than may be: also where few would be left.
func TestP1203ErrKindOfTooManyNodes(t *testing.T) {
	for _, x := range sample.TooGreat() {
		holdWrong(t, x)
	}
	// Both Kids of a node are one and the same memory: few nodes are made, and very many met.
	x := a()
	for n := 1; n < 40; n++ {
		x = of(4, x, x)
		if n < 12 {
			holdOf(t, x, sample.Beside(4, 1<<n+1, a()))
		} else {
			holdWrong(t, x)
		}
	}
	x = a()
	for n := 1; n < 40; n++ {
		x = of(5, x, x)
		if n < 12 {
			holdOf(t, x, a())
		} else {
			holdWrong(t, x)
		}
	}
}

package deriv

import (
	"testing"

	"doublet/api"
	"doublet/sample"
	"doublet/tree"
)

// Trees that are others when they are made simple.
func TestP1303NotSimpleYet(t *testing.T) {
	holdRows(t, [][3]string{
		{"(a|b|a)(()c*)+", "b", "c*"}, {"a()b()", "a", "b"}, {"(a|(b|(c|d)))e", "d", "e"}, {"((a)b)((c)d)", "a", "bcd"}, {"ab|(ac|ab)|a(d)", "a", "[b-d]"}, {"(a()|a){1}b", "a", "b"}, {"a**", "a", "a*"}, {"(a+)+b", "a", "a*b"}, {"(a?)*b", "b", ""}, {"(a*)?", "a", "a*"},
		{"a{0}b", "a", nothing}, {"a{0}b", "b", ""}, {"(ab){1}", "a", "b"}, {"a(b" + nothing + "|c)", "a", "c"}, {"(" + nothing + ")*a", "a", ""}, {nothing + "a|a", "a", ""}, {"(" + nothing + "|a){2}", "a", "a"}, {"(){3}a", "a", ""}, {"((a|b)|a)*", "b", "[ab]*"}, {"(a{1,}){0,1}b", "a", "a*b"},
	}...)
	for _, r := range [][2]string{{"(a|b|a)(()c*)+", "[ab]c*"}, {"a()b()", "ab"}, {"a**|b{1}", "a*|b"}, {nothing + "?", ""}, {"(a|)|(|a)", "a|"}} {
		holdWord(t, read(r[0]), "", read(r[1]))
	}
}

// Behind the empty word stands the simple tree itself.
func TestP1303EmptyWord(t *testing.T) {
	next := sample.Chances()
	l := append(sample.Around(), sample.Things()...)
	for n := range 500 {
		l = append(l, sample.Grown(1+n%60, next), sample.Small(1+n%60, next))
	}
	l = append(l, sample.Chain(4096), sample.Beside(4, 4096, a()), sample.Beside(5, 4096, e()), sample.Grown(4096, next), sample.Small(4096, next))
	for _, x := range l {
		holdWord(t, x, "", plain(t, x))
		if got, wrong := Word(x, nil); wrong != api.OK || !tree.Same(got, plain(t, x)) {
			t.Errorf("Word(%s, nil) = %s, %d", brief(x), brief(got), wrong)
		}
	}
}

// Words of several bytes, up to long ones.
func TestP1303Word(t *testing.T) {
	holdRows(t, [][3]string{
		{"abcd", "ab", "cd"}, {"abcd", "abc", "d"}, {"abcd", "abcd", ""}, {"abcd", "abcde", nothing}, {"abcd", "ac", nothing}, {"(ab)*", "ab", "(ab)*"}, {"(ab)*", "aba", "b(ab)*"}, {"(ab)+", "abab", "(ab)*"}, {"(ab)*", "aa", nothing}, {"(ab)*", "aabb", nothing},
		{"a{0,2}", "aa", ""}, {"a{0,2}", "aaa", nothing}, {"a{5}", "aaa", "a{2}"}, {"(ab){2,3}", "abab", "(ab)?"}, {"(ab){3,}", "abab", "(ab)+"}, {"(ab){3,}", "ababab", "(ab)*"}, {"a*a*", "aa", "a*a*|a*"}, {"a?a?a?", "aa", "a?|"}, {"a?a?a?", "aaa", ""},
		{"ab|ac|ad*", "ab", ""}, {"ab|ac|ad*", "ad", "d*"}, {"(a|b)*abb", "ab", "[ab]*abb|b"}, {"(a|b)*abb", "abb", "[ab]*abb|"}, {"(a|b)*abb", "aba", "[ab]*abb|bb"}, {"(a*b)*", "aab", "(a*b)*"}, {"x(a|b(c|d))y", "xbc", "y"}, {"\\x00(\\xff\\n)*", "\x00\xff", `\n(\xff\n)*`},
	}...)
	long := many(5000, "ab")
	holdRows(t, [3]string{"(ab)*", long, "(ab)*"}, [3]string{"(ab)*", long + "a", "b(ab)*"}, [3]string{"(ab)*", long + "b", nothing}, [3]string{"(ab)*", "b" + long, nothing}, [3]string{"[ab]*abb", long, "[ab]*abb|b"}, [3]string{".*", long, ".*"}, [3]string{"(a*b*)+", long, "b*(a*b*)*"})
	// As many as may be, and one more.
	x := times(a(), 1000, 1000)
	for _, n := range []int{1, 2, 500, 997, 998} {
		holdWord(t, x, many(n, "a"), times(a(), 1000-n, 1000-n))
	}
	holdWord(t, x, many(999, "a"), a())
	holdWord(t, x, many(1000, "a"), e())
	holdWord(t, x, many(1001, "a"), none())
	thousand := times(times(a(), 1000, 1000), 1000, 1000)
	holdWord(t, thousand, many(1000, "a"), times(times(a(), 1000, 1000), 999, 999))
	holdWord(t, thousand, many(3500, "a"), of(4, times(a(), 500, 500), times(times(a(), 1000, 1000), 996, 996)))
}

func TestP1303Says(t *testing.T) {
	for text, words := range map[string]struct{ said, not []string }{
		"":                {[]string{""}, []string{"a", "\x00", "aa"}},
		nothing:           {nil, []string{"", "a", "\xff", "ab"}},
		"a":               {[]string{"a"}, []string{"", "b", "aa", "ab"}},
		"abc":             {[]string{"abc"}, []string{"", "a", "ab", "abcd", "abcabc", "acb", "xbc"}},
		"(ab)*":           {[]string{"", "ab", "abab", many(3000, "ab")}, []string{"a", "b", "aba", "ba", many(3000, "ab") + "a"}},
		"(ab)+":           {[]string{"ab", "abab"}, []string{"", "a", "aba", "abba"}},
		"a?b":             {[]string{"b", "ab"}, []string{"", "a", "aab", "abb"}},
		"a{2,3}":          {[]string{"aa", "aaa"}, []string{"", "a", "aaaa", "ab"}},
		"a{3,}b":          {[]string{"aaab", "aaaaaab"}, []string{"aab", "b", "aaa", "aaabb"}},
		"(a|b)*abb":       {[]string{"abb", "babb", "aaababb"}, []string{"", "ab", "abba", "abbb"}},
		"[a-c]x|b*":       {[]string{"", "ax", "cx", "bx", "b", "bbb"}, []string{"x", "a", "ca", "bbx", "axx"}},
		"(a|ab)(c|bcd)d*": {[]string{"ac", "abc", "abcd", "abbcd", "abcddd"}, []string{"ab", "abbc", "abdc", "a"}},
		".*":              {[]string{"", "a", "\x00\xff", "a b"}, []string{"\n", "a\nb"}},
	} {
		for _, w := range words.said {
			if is, wrong := Says(read(text), []byte(w)); !is || wrong != api.OK {
				t.Errorf("Says(%s, %.60q) = %t, %d", text, w, is, wrong)
			}
		}
		for _, w := range words.not {
			if is, wrong := Says(read(text), []byte(w)); is || wrong != api.OK {
				t.Errorf("Says(%s, %.60q) = %t, %d", text, w, is, wrong)
			}
		}
	}
}

// Each fault at the root, and at each place of other trees; also where nothing would be left of them.
func TestP1303ErrKind(t *testing.T) {
	t.Parallel()
	for x := range sample.Faults() {
		if holdMayNot(t, x); t.Failed() {
			return
		}
	}
	for _, x := range sample.MayNot() {
		for _, y := range []api.Node{of(4, none(), x), of(4, a(), x), of(5, a(), of(4, none(), x)), times(x, 0, 0), of(4, times(x, 0, 0), a()), of(4, b(), of(8, of(4, x, hole()))), of(5, x, x)} {
			holdMayNot(t, y)
		}
	}
	holdMayNot(t, api.Node{})
	for _, x := range sample.TooGreat() {
		holdMayNot(t, x)
	}
	// Ahead of ErrBig, which would be told if one more node might be.
	big := of(6, row(2048, 'a'))
	holdWrong(t, big, "a", api.ErrBig)
	holdMayNot(t, of(4, big, api.Node{}))
	holdMayNot(t, of(4, big, row(2046, 'a'), e()))
}

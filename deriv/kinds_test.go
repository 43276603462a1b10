package deriv

import (
	"testing"

	"doublet/api"
	"doublet/sets"
)

func TestP1302NoneEmptyAndSet(t *testing.T) {
	holdRows(t, [][3]string{
		{nothing, "a", nothing}, {"", "a", nothing}, {"a", "a", ""}, {"a", "b", nothing}, {"[a-c]", "b", ""}, {"[a-c]", "d", nothing}, {"[^a]", "a", nothing}, {"[^a]", "b", ""}, {".", "\n", nothing}, {".", "\xff", ""},
	}...)
	few, lots := sets.Of(0, 'a', 255), sets.Union(sets.Span(1, 63), sets.Span(128, 200))
	for n := range 256 {
		one := byte(n)
		for _, x := range []api.Node{none(), e(), hole()} {
			holdWord(t, x, string([]byte{one}), none())
		}
		for _, s := range []api.Set{sets.Of(one), sets.Not(sets.Of(one)), few, lots, sets.Not(few), sets.Not(lots), sets.All(), sets.Of(0), sets.Of(255), sets.Span(0, one), sets.Span(one, 255)} {
			want := none()
			if sets.Has(s, one) {
				want = e()
			}
			holdWord(t, ofSet(s), string([]byte{one}), want)
		}
		if n == 0 || n == 255 || n == 64 {
			for other := range 256 {
				want := none()
				if other == n {
					want = e()
				}
				holdWord(t, ofSet(sets.Of(one)), string([]byte{byte(other)}), want)
			}
		}
	}
}

// None, one, several and all of the first kids say the empty word.
func TestP1302Cat(t *testing.T) {
	holdRows(t, [][3]string{
		{"ab", "a", "b"}, {"ab", "b", nothing}, {"abc", "a", "bc"}, {"aab", "a", "ab"}, {"a(ba)*", "a", "(ba)*"}, {"ab?c", "a", "b?c"}, {"ab?c", "b", nothing}, {"ab*c", "c", nothing}, {"[ab]c", "b", "c"},
		{"a?b", "a", "b"}, {"a?b", "b", ""}, {"a?b", "c", nothing}, {"a*b", "a", "a*b"}, {"a*b", "b", ""}, {"a+b", "a", "a*b"}, {"a+b", "b", nothing}, {"a?bc?", "b", "c?"}, {"a?bc?", "c", nothing},
		{"a*b*c", "a", "a*b*c"}, {"a*b*c", "b", "b*c"}, {"a*b*c", "c", ""}, {"a*b*c", "d", nothing}, {"a?b?cd", "a", "b?cd"}, {"a?b?cd", "b", "cd"}, {"a?b?cd", "c", "d"}, {"a?b?cd", "d", nothing},
		{"a?b?", "a", "b?"}, {"a?b?", "b", ""}, {"a?b?", "c", nothing}, {"a*b*", "a", "a*b*"}, {"a*b*", "b", "b*"}, {"a*b?c*", "c", "c*"},
		// In several of them.
		{"a?ab", "a", "ab|b"}, {"a?a", "a", "a|"}, {"a*a", "a", "a*a|"}, {"a*a*", "a", "a*a*|a*"}, {"a?a?a?", "a", "a?a?|a?|"}, {"a*ba", "a", "a*ba"}, {"a*ba", "b", "a"}, {"a*b*a", "a", "a*b*a|"}, {"a*b*a", "b", "b*a"}, {"a?bac", "a", "bac"},
		{"(ac)?ab", "a", "cab|b"}, {"(ab)?a", "a", "ba|"}, {"a?(ab)*b", "a", "(ab)*b|b(ab)*b"}, {"[ab]?[ac]d", "a", "[ac]d|d"}, {"[ab]?[ac]d", "b", "[ac]d"}, {"[ab]?[ac]d", "c", "d"}, {"a?b?a?b?a", "a", "b?a?b?a|b?a|"}, {"a?b?a?b?a", "b", "a?b?a|a"},
		{"a?[ab]", "a", "[ab]|"}, {"a?[ab]?c", "a", "[ab]?c|c"}, {"(ab|ac)?ad", "a", "[bc]ad|d"}, {"(ab?|ac?)*ad", "a", "(b?|c?)(ab?|ac?)*ad|d"},
		// The same in several.
		{"a?a*", "a", "a*"}, {"a?a*b", "a", "a*b"}, {"(ab)?(ab)*", "a", "b(ab)*"}, {"(ab)?(ab)*c", "a", "b(ab)*c"}, {"(ab)?(ab)*((ab)*)?", "a", "b(ab)*(ab)*|b(ab)*"},
		// The empty word said by each kind.
		{"(a|)b", "b", ""}, {"(|a)b", "b", ""}, {"(a|)b", "a", "b"}, {"a{0,2}b", "b", ""}, {"a{0,2}b", "a", "a?b"}, {"(a?){2}b", "b", ""}, {"(a?){2}b", "a", "a?b"}, {"(a?b*){2,}c", "c", ""}, {"(a|b*)c", "c", ""}, {"(a|b*)c", "a", "c"}, {"(a|b*)c", "b", "b*c"}, {"(a|)+b", "b", ""}, {"(ab|c*)*b", "b", ""}, {"(ab|c*)*b", "c", "c*(ab|c*)*b"},
		{"(ab){2}c", "c", nothing}, {"(ab)+c", "c", nothing}, {"(ab|ac)d", "d", nothing}, {"(a?b){2}c", "c", nothing}, {"(a?|b)(c|d?)e", "e", ""}, {"(a?|b)(c|de?)e", "e", nothing},
		// What is made simple first.
		{"()a()b", "a", "b"}, {"(a)(b)(c)", "a", "bc"}, {"(ab)(cd)", "a", "bcd"}, {"a(b" + nothing + ")", "a", nothing}, {"a?(" + nothing + ")*b", "b", ""}, {"a{0}b", "b", ""}, {"a{0}b", "a", nothing},
		// Bytes at both ends.
		{`\x00\xff`, "\x00", `\xff`}, {`\x00\xff`, "\xff", nothing}, {`\x00*\xff`, "\xff", ""}, {`\xff?\x00`, "\x00", ""},
	}...)
}

// None, one, several and all parts have something behind the byte.
func TestP1302Alt(t *testing.T) {
	holdRows(t, [][3]string{
		{"ab|cd", "a", "b"}, {"ab|cd", "c", "d"}, {"ab|cd", "x", nothing}, {"ab|c*", "c", "c*"}, {"|ab", "a", "b"}, {"ab|", "a", "b"}, {"ab|", "b", nothing}, {"a|", "a", ""}, {"ab|cd|ef", "c", "d"},
		{"ab|ac", "a", "[bc]"}, {"ac|ab", "a", "[bc]"}, {"ab|ac|ad", "a", "[b-d]"}, {"ab|ab*", "a", "b|b*"}, {"ab*|ab", "a", "b*|b"}, {"a|ab", "a", "|b"}, {"ab|a", "a", "b|"}, {"ab|cd|ab*", "a", "b|b*"}, {"ab|a*b", "a", "b|a*b"}, {"ac*|ab*|ad*", "a", "c*|b*|d*"},
		// The same of several.
		{"ab|[ac]b", "a", "b"}, {"ab|[ac]b", "c", "b"}, {"abc|[ab]bc|a*bc|xbc", "a", "bc|a*bc"}, {"abc|[ab]bc|a*bc|xbc", "b", "bc|c"}, {"a|ba*|b", "b", "|a*"}, {"ab|b*c|[cd]", "c", ""}, {"ab*|cb*|ab*c|[ac]b*", "a", "b*|b*c"}, {"[ab]c|[bc]c|[ac]c", "b", "c"}, {"[ab]c|[bc]c|[ac]d", "c", "[cd]"},
		// Choices of choices.
		{"a(b|cc)|a(cc|d)", "a", "[bd]|cc"}, {"a(b|)|ac*", "a", "b||c*"}, {"a(b*|)|a|a(c|b*)", "a", "b*||c"}, {"x|(ab|c)|(ac|d)", "a", "[bc]"}, {"a(bb|b)|ac|a(d|dd)", "a", "bb|[b-d]|dd"}, {"(ab|b)c|(ac|c)d", "a", "bc|cd"}, {"(ab|ac)d|(ab|ac)e", "a", "[bc]d|[bc]e"}, {"(ab*|ac*)d|ae", "a", "(b*|c*)d|e"},
		{"a*|b*", "a", "a*"}, {"a*|a+|a?", "a", "a*|"}, {"(a*b)?|(ab)*", "a", "a*b|b(ab)*"}, {"a{3}|a{2,3}|a{3}b", "a", "a{2}|a{1,2}|a{2}b"}, {"a{2}|a{1,2}|a{0,2}", "a", "a|a?"},
		{`\x00a|\xffb`, "\x00", "a"}, {`\x00a|\xffb`, "\xff", "b"}, {`[\x00\xff]a|\xffb`, "\xff", "[ab]"},
	}...)
}

// Kids that say the empty word, and that don't.
func TestP1302StarPlusAndOpt(t *testing.T) {
	holdRows(t, [][3]string{
		{"a*", "a", "a*"}, {"a*", "b", nothing}, {"a+", "a", "a*"}, {"a+", "b", nothing}, {"(ab)*", "a", "b(ab)*"}, {"(ab)+", "a", "b(ab)*"}, {"(ab)*", "b", nothing}, {"(ab)+", "b", nothing}, {"[a-c]*", "b", "[a-c]*"}, {"[a-c]+", "c", "[a-c]*"},
		{"(a*b)*", "a", "a*b(a*b)*"}, {"(a*b)*", "b", "(a*b)*"}, {"(a*b)+", "a", "a*b(a*b)*"}, {"(a*b)+", "b", "(a*b)*"}, {"(ab|ac)*", "a", "[bc](ab|ac)*"}, {"(ab|ab*)+", "a", "(b|b*)(ab|ab*)*"}, {"(ab|c)+", "c", "(ab|c)*"}, {"(a+b)+", "a", "a*b(a+b)*"},
		{"(a*b*)*", "a", "a*b*(a*b*)*"}, {"(a*b*)*", "b", "b*(a*b*)*"}, {"(a*b*)+", "a", "a*b*(a*b*)*"}, {"(a*b*)+", "b", "b*(a*b*)*"}, {"(ab|)*", "a", "b(ab|)*"}, {"(ab|)+", "a", "b(ab|)*"}, {"(|a)+", "a", "(|a)*"}, {"(|a)+", "b", nothing}, {"(a{0,2})*", "a", "a?(a{0,2})*"}, {"(a{0,2})+", "a", "a?(a{0,2})*"}, {"(a?a?)*", "a", "(a?|)(a?a?)*"}, {"(a?a?)+", "a", "(a?|)(a?a?)*"},
		// One within the other.
		{"((ab)*c)*", "a", "b(ab)*c((ab)*c)*"}, {"((ab)*c)+", "c", "((ab)*c)*"}, {"((ab)+c)+", "a", "b(ab)*c((ab)+c)*"}, {"(((ab)*c)*d)*", "a", "b(ab)*c((ab)*c)*d(((ab)*c)*d)*"}, {"(((ab)*c)*d)*", "d", "(((ab)*c)*d)*"}, {"((a?b)+c?)*", "a", "b(a?b)*c?((a?b)+c?)*"}, {"a**", "a", "a*"}, {"a+*", "a", "a*"}, {"a+?", "a", "a*"}, {"(ab)+?", "a", "b(ab)*"},
		{"a?", "a", ""}, {"a?", "b", nothing}, {"(ab)?", "a", "b"}, {"(ab)?", "b", nothing}, {"(ab|ac)?", "a", "[bc]"}, {"(ab|a)?", "a", "b|"}, {"(a|)?", "a", ""}, {"(a*b)?", "a", "a*b"}, {"(a*b)?", "b", ""}, {"(a*b*)?", "b", "b*"}, {"(ab{2,3})?", "a", "b{2,3}"}, {"(a{2,3})?", "a", "a{1,2}"}, {"((ab)?c)?", "a", "bc"}, {"((ab)?c)?", "c", ""}, {"a??", "a", ""},
		{`\x00*`, "\x00", `\x00*`}, {`\xff+`, "\xff", `\xff*`}, {`\xff?`, "\xff", ""}, {`\xff?`, "\x00", nothing},
	}...)
}

// Lo 0, 1, 2 and above, Hi 1, 2, the same, greater, the greatest, and without an end; kids that say the empty word, and that don't.
func TestP1302Rep(t *testing.T) {
	holdRows(t, [][3]string{
		{"a{2}", "a", "a"}, {"a{2}", "b", nothing}, {"a{3}", "a", "a{2}"}, {"a{4}", "a", "a{3}"}, {"a{2,3}", "a", "a{1,2}"}, {"a{2,5}", "a", "a{1,4}"}, {"a{3,4}", "a", "a{2,3}"}, {"a{0,2}", "a", "a?"}, {"a{0,3}", "a", "a{0,2}"}, {"a{1,2}", "a", "a?"}, {"a{1,3}", "a", "a{0,2}"}, {"a{1,4}", "a", "a{0,3}"},
		{"a{2,}", "a", "a+"}, {"a{3,}", "a", "a{2,}"}, {"a{4,}", "a", "a{3,}"}, {"a{1000}", "a", "a{999}"}, {"a{1000,}", "a", "a{999,}"}, {"a{0,1000}", "a", "a{0,999}"}, {"a{1,1000}", "a", "a{0,999}"}, {"a{2,1000}", "a", "a{1,999}"}, {"a{999,1000}", "a", "a{998,999}"},
		{"a{0}", "a", nothing}, {"a{0,1}", "a", ""}, {"a{1}", "a", ""}, {"a{0,}", "a", "a*"}, {"a{1,}", "a", "a*"}, {"(ab){1}", "a", "b"}, {"(ab){0,}", "a", "b(ab)*"}, {"(ab){1,}", "a", "b(ab)*"},
		{"(ab){2}", "a", "bab"}, {"(ab){2,3}", "a", "b(ab){1,2}"}, {"(ab){0,2}", "a", "b(ab)?"}, {"(ab){0,3}", "a", "b(ab){0,2}"}, {"(ab){1,2}", "a", "b(ab)?"}, {"(ab){2,}", "a", "b(ab)+"}, {"(ab){3,}", "a", "b(ab){2,}"}, {"(ab){1000,}", "a", "b(ab){999,}"}, {"(ab){3}", "a", "b(ab){2}"}, {"(ab){2}", "b", nothing}, {"(ab|ac){2,3}", "a", "[bc](ab|ac){1,2}"}, {"(ab|a*){2}", "a", "(b|a*)(ab|a*)"}, {"(ab|c){2}d", "c", "(ab|c)d"},
		{"(a?){2}", "a", "a?"}, {"(a?){2}", "b", nothing}, {"(a?){3}", "a", "(a?){2}"}, {"(a?){2,}", "a", "a*"}, {"(a?){0,2}", "a", "a?"}, {"(a?){1,3}", "a", "(a?){0,2}"}, {"(a*){2}", "a", "a*a*"}, {"(a*){2,3}", "a", "a*(a*){1,2}"}, {"(a*){2,}", "a", "a*a*"}, {"(a+){2}", "a", "a*a+"}, {"(a+){0,2}", "a", "a*a*"}, {"(a+){2,}", "a", "a*a+"}, {"(a*b*){2}", "a", "a*b*a*b*"}, {"(a*b*){2}", "b", "b*a*b*"}, {"(a*b*){2,4}", "b", "b*(a*b*){1,3}"}, {"(ab|){0,2}", "a", "b(ab|)?"}, {"(ab|){2,}", "a", "b(ab|)+"}, {"(ab|){1000}", "a", "b(ab|){999}"}, {"(|a){0,1000}", "a", "(|a){0,999}"},
		// One within the other.
		{"(a{2}){2}", "a", "aa{2}"}, {"(a{2,3}){2,3}", "a", "a{1,2}(a{2,3}){1,2}"}, {"((ab){2}c){2,}", "a", "babc((ab){2}c)+"}, {"(a{0,2}){0,2}", "a", "a?(a{0,2})?"}, {"(a{0,2}){3}", "a", "a?(a{0,2}){2}"}, {"(a{2}|b{3})*", "b", "b{2}(a{2}|b{3})*"}, {"((a*){2}b){2}", "a", "a*a*b(a*){2}b"}, {"((a*){2}b){2}", "b", "(a*){2}b"}, {"((a{2}b){3}c){4}", "a", "ab(a{2}b){2}c((a{2}b){3}c){3}"}, {"((a{0,3}){0,3}){0,3}", "a", "a{0,2}(a{0,3}){0,2}((a{0,3}){0,3}){0,2}"}, {"(a{2,}){2,}", "a", "a+(a{2,})+"}, {"(a{2}){0,2}b", "b", ""},
		{`\x00{2,3}`, "\x00", `\x00{1,2}`}, {`\xff{2,}`, "\xff", `\xff+`},
	}...)
}

package match

import (
	"testing"

	"doublet/api"
	"doublet/sample"
	"doublet/sets"
)

// ofSet: a leaf of a set.
func ofSet(s api.Set) api.Node { return api.Node{Kind: api.KindSet, Set: s} }

func TestP1102Alone(t *testing.T) {
	holdEnds(t, none(), "", 0)
	holdEnds(t, none(), "ab", 1)
	holdEnds(t, hole(), "", 0)
	holdEnds(t, hole(), "ab", 0)
	holdEnds(t, e(), "", 0, 0)
	holdEnds(t, e(), "ab", 0, 0)
	holdEnds(t, e(), "ab", 2, 2)
	holdEnds(t, a(), "", 0)
	holdEnds(t, a(), "ab", 0, 1)
	holdEnds(t, a(), "ab", 1)
	holdEnds(t, a(), "ab", 2)
	holdEnds(t, of(4, a(), b()), "aab", 0)
	holdEnds(t, of(4, a(), b()), "aab", 1, 3)
	holdEnds(t, of(5, a(), of(4, a(), a()), b()), "aab", 0, 1, 2)
	holdEnds(t, of(6, a()), "aab", 0, 0, 1, 2)
	holdEnds(t, of(6, a()), "aab", 2, 2)
	holdEnds(t, of(7, a()), "aab", 0, 1, 2)
	holdEnds(t, of(7, a()), "aab", 2)
	holdEnds(t, of(8, a()), "aab", 0, 0, 1)
	holdEnds(t, of(8, a()), "aab", 2, 2)
	holdEnds(t, rep(a(), 2, 3), "aaaa", 0, 2, 3)
	holdEnds(t, rep(a(), 2, 3), "aaaa", 2, 4)
	holdEnds(t, rep(a(), 2, 3), "aaaa", 3)
}

// Texts, words and places, with the ends written out.
func TestP1102WrittenOut(t *testing.T) {
	for _, r := range []struct {
		text, word string
		at         int
		want       []int
	}{
		{"a*b?", "aab", 0, []int{0, 1, 2, 3}}, {"a*b?", "aab", 2, []int{2, 3}}, {"a*b?", "ba", 0, []int{0, 1}},
		{"", "", 0, []int{0}}, {"", "abc", 2, []int{2}}, {"abc", "xabcx", 1, []int{4}}, {"abc", "xabcx", 0, nil}, {"abc", "ab", 0, nil},
		{"a|ab|abc", "abcd", 0, []int{1, 2, 3}}, {"abc|ab|a", "abcd", 0, []int{1, 2, 3}}, {"(a|ab)(c|bcd)", "abcd", 0, []int{3, 4}}, {"(a|ab)(c|bcd)?", "abcd", 0, []int{1, 2, 3, 4}},
		{"(aa|aaa)*", "aaaaaaa", 0, []int{0, 2, 3, 4, 5, 6, 7}}, {"(aa|aaa)+", "aaaa", 1, []int{3, 4}}, {"(aaa|aaaaa)*", "aaaaaaaaaaa", 0, []int{0, 3, 5, 6, 8, 9, 10, 11}},
		{"(ab)*a", "ababa", 0, []int{1, 3, 5}}, {"(ab)*a", "ababa", 1, nil}, {"(a*)*", "aab", 0, []int{0, 1, 2}}, {"(a*b*)*", "abba", 0, []int{0, 1, 2, 3, 4}}, {"(a+)+b", "aaab", 0, []int{4}}, {"(a?b)*", "abbab", 0, []int{0, 2, 3, 5}},
		{"a{0}", "aa", 1, []int{1}}, {"a{1}", "aa", 0, []int{1}}, {"a{2,}", "aaaaa", 0, []int{2, 3, 4, 5}}, {"a{2,}", "aaaaa", 4, nil}, {"a{0,2}", "aaaa", 0, []int{0, 1, 2}}, {"(ab){2,3}", "abababab", 0, []int{4, 6}}, {"(a|ab){2}b", "abab", 0, []int{4}},
		{"(a|b){3}", "abab", 0, []int{3}}, {"(a{2}|b{3}){2}", "aabbbaa", 0, []int{5}}, {"(a{2}|b{3}){2,}", "aabbbaa", 0, []int{5, 7}}, {"(a{1,2}){2}", "aaaaa", 0, []int{2, 3, 4}}, {"(a?){2,3}", "aaaaa", 1, []int{1, 2, 3, 4}}, {"(|a|aaa){2}", "aaaaaaa", 0, []int{0, 1, 2, 3, 4, 6}},
		{"[^\\x00-\\xff]", "a", 0, nil}, {"a[^\\x00-\\xff]|b", "ab", 0, nil}, {"a[^\\x00-\\xff]|b", "ab", 1, []int{2}}, {"[^\\x00-\\xff]*a", "a", 0, []int{1}}, {"(a[^\\x00-\\xff])*", "aa", 1, []int{1}}, {"([^\\x00-\\xff]|a)*", "aab", 0, []int{0, 1, 2}},
		{"()*", "ab", 1, []int{1}}, {"()+", "ab", 2, []int{2}}, {"(){1000}", "ab", 0, []int{0}}, {"(|){3,}a", "a", 0, []int{1}}, {"((a?){1000}){1000}", "aab", 0, []int{0, 1, 2}},
		{".*a", "babcab", 0, []int{2, 5}}, {".*\\n.*", "a\nb\n", 0, []int{2, 3}}, {".", "\n", 0, nil}, {"[a-c]+[^a-c]", "abcx", 1, []int{4}}, {"\\xff*", "\xff\xff\xfe", 0, []int{0, 1, 2}}, {"\\x00+", "\x00a", 0, []int{1}},
		{"a.*b", "acbcb", 0, []int{3, 5}}, {"(.{2})*", "abcde", 0, []int{0, 2, 4}}, {"(.{2})*", "abcde", 1, []int{1, 3, 5}}, {"(.*){2}b", "abab", 0, []int{2, 4}},
	} {
		holdEnds(t, read(r.text), r.word, r.at, r.want...)
	}
}

// Each thing as the kid of each kind, as the first, a middle and the last one, beside each other thing.
func TestP1102KidOfEachKind(t *testing.T) {
	t.Parallel()
	words := append(allWords("ab", 3), "ac", "ca", "cab", "bca", "abc", "aac", "bbc")
	short := []string{"", "a", "b", "ab", "ba", "bb", "aab", "abca"}
	for i, x := range sample.Things() {
		for _, y := range sample.Above(x) {
			holdListed(t, y, words, 3)
			holdListed(t, of(6, y), words, 3)
			holdListed(t, rep(y, 1, 2), words, 3)
		}
		for j, y := range sample.Things() {
			if (i+j)%3 > 0 {
				continue
			}
			for _, kind := range []api.Kind{4, 5} {
				for _, z := range []api.Node{of(kind, x, y), of(kind, x, y, c()), of(kind, c(), x, y), of(kind, y, x, of(8, c()))} {
					holdListed(t, z, short, 4)
				}
				holdListed(t, of(6, of(kind, x, y)), short, 4)
				holdListed(t, rep(of(kind, y, x), 2, -1), short, 4)
			}
		}
		if t.Failed() {
			return
		}
	}
}

// What says no word, within each kind.
func TestP1102NoWordWithin(t *testing.T) {
	for _, x := range []api.Node{none(), hole(), of(4, a(), none()), of(4, hole(), of(6, b())), of(5, none(), hole()), of(7, none()), rep(hole(), 1, 1), rep(none(), 1000, -1), of(4, of(6, a()), of(7, b()), rep(none(), 3, 9))} {
		for _, y := range []api.Node{x, of(4, x, a()), of(4, a(), x), of(4, a(), x, b()), of(4, of(6, a()), x, of(6, b())), of(5, x, x), of(7, x), rep(x, 1, 1), rep(x, 1, -1), rep(x, 1, 1000), rep(x, 1000, 1000), rep(x, 2, -1)} {
			for at := range 5 {
				holdEnds(t, y, "aabb", at)
			}
		}
		for _, y := range []api.Node{of(6, x), of(8, x), rep(x, 0, 0), rep(x, 0, 1), rep(x, 0, 1000), rep(x, 0, -1), of(5, x, e()), of(5, e(), x), of(5, x, e(), x), of(4, of(6, x), of(8, x)), of(6, of(6, x)), of(7, of(6, x))} {
			for at := range 5 {
				holdEnds(t, y, "aabb", at, at)
			}
		}
		for _, y := range []api.Node{of(5, x, a()), of(5, a(), x), of(5, x, a(), x), of(4, of(6, x), a()), of(4, a(), of(8, x), rep(x, 0, -1)), rep(of(5, a(), x), 1, 1)} {
			holdEnds(t, y, "aabb", 0, 1)
			holdEnds(t, y, "aabb", 1, 2)
			holdEnds(t, y, "aabb", 2)
		}
	}
}

// What says the empty word alone stays so, however often it is said.
func TestP1102EmptyWithin(t *testing.T) {
	for _, x := range []api.Node{e(), of(4, e(), e()), of(5, e(), e()), of(5, none(), e()), of(6, none()), of(8, hole()), rep(a(), 0, 0), rep(of(6, a()), 0, 0), of(6, e()), of(7, e()), rep(e(), 1000, -1)} {
		l := append(sample.Above(x), sample.Above(of(6, x))...)
		for _, y := range append(l, x, rep(x, 1000, 1000), rep(x, 1000, -1), of(4, x, x, x), of(5, x, x, x)) {
			for at := range 4 {
				holdEnds(t, y, "aab", at, at)
			}
			holdEnds(t, of(4, y, a(), y), "aab", 0, 1)
			holdEnds(t, of(4, y, a(), y), "aab", 2)
			holdEnds(t, of(6, of(5, y, a())), "aab", 0, 0, 1, 2)
		}
	}
}

// Each byte in sets of one, of many and of all.
func TestP1102Sets(t *testing.T) {
	l := []api.Set{{}, sets.All(), sets.Of(0), sets.Of(255), sets.Of(0, 255), sets.Not(sets.Of(0)), sets.Not(sets.Of(255)), sets.Not(sets.Of(10)), sets.Span(128, 255), sets.Span(0, 127), sets.Span(63, 64), sets.Of(64, 128, 192), sets.Span('a', 'z')}
	for n := range 256 {
		w := string([]byte{byte(n)})
		for _, s := range append(l, sets.Of(byte(n)), sets.Not(sets.Of(byte(n)))) {
			in := s[n/64]>>(n%64)&1 == 1
			holdEnds(t, ofSet(s), w, 0, where(in, 1)...)
			holdEnds(t, ofSet(s), w+w, 1, where(in, 2)...)
			holdEnds(t, ofSet(s), w, 1)
			holdEnds(t, rep(ofSet(s), 2, 2), w+w, 0, where(in, 2)...)
			holdEnds(t, of(6, ofSet(s)), "\x00"+w, 1, append([]int{1}, where(in, 2)...)...)
		}
	}
}

// Lo and Hi, at their edges and between, of what says no word, the empty one alone, it and others, and others; more and fewer bytes than they ask for.
func TestP1102Numbers(t *testing.T) {
	t.Parallel()
	for _, n := range []int{0, 1, 2, 3, 7, 63, 64, 65, 255, 256} {
		w := many(n, "a")
		for lo := 0; lo <= 1000; lo += 1 + lo/5*3 {
			for _, hi := range []int{-1, 0, 1, 2, lo, lo + 1, n - 1, n, n + 1, lo + n - 1, lo + n, 999, 1000} {
				if hi != -1 && (hi < lo || hi > 1000) {
					continue
				}
				// Most of them are asked at one place alone, lest this takes long.
				at := (lo + hi + 1) % (n + 1)
				most := n
				if hi != -1 {
					most = min(n, at+hi)
				}
				holdEnds(t, rep(a(), lo, hi), w, at, upTo(at+lo, most, 1)...)
				holdEnds(t, rep(of(8, a()), lo, hi), w, at, upTo(at, most, 1)...)
				holdEnds(t, rep(rep(a(), 2, 2), lo, hi), w, at, upTo(at+2*lo, min(n, 2*most-at), 2)...)
				holdEnds(t, rep(e(), lo, hi), w, at, at)
				holdEnds(t, rep(b(), lo, hi), w, at, where(lo == 0, at)...)
				holdEnds(t, rep(none(), lo, hi), w, at, where(lo == 0, at)...)
				if hi == 0 {
					holdEnds(t, rep(of(6, a()), lo, hi), w, at, at)
				} else {
					holdEnds(t, rep(of(6, a()), lo, hi), w, at, upTo(at, n, 1)...)
				}
			}
		}
	}
}

// Words of one or of two bytes, so many times: the fewest times are not those that go least far.
func TestP1102NumbersOfSeveralWords(t *testing.T) {
	two := of(5, a(), of(4, a(), a()))
	three := of(5, of(4, a(), a(), a()), a())
	for _, n := range []int{5, 40, 256} {
		w := many(n, "a")
		for lo := range 12 {
			for hi := lo; hi < 14; hi++ {
				holdEnds(t, rep(two, lo, hi), w, 0, upTo(lo, min(n, 2*hi), 1)...)
			}
			holdEnds(t, rep(two, lo, -1), w, 0, upTo(lo, n, 1)...)
			holdEnds(t, rep(three, lo, lo), w, 0, upTo(lo, min(n, 3*lo), 2)...)
		}
	}
}

// What is the same in one tree, at several places.
func TestP1102SamePartTwice(t *testing.T) {
	x := of(5, a(), of(4, a(), b()))
	star := of(6, x)
	for _, y := range []api.Node{of(4, x, x), of(4, x, x, x), of(5, x, of(4, x, x)), of(4, star, x, star), of(6, of(4, x, x)), of(4, of(5, x, b()), of(5, x, b())), of(4, of(6, of(4, a(), b())), of(6, of(4, a(), b())), b()), rep(of(4, x, of(8, x)), 2, 3)} {
		for _, w := range append(allWords("ab", 4), "aabab", "ababab", "abaab", "ababa", "abbab") {
			holdCuts(t, y, w)
		}
	}
}

// Each place of words about the edges of their lengths: none of the places, one, each.
func TestP1102Places(t *testing.T) {
	t.Parallel()
	for _, n := range []int{0, 1, 2, 62, 63, 64, 65, 126, 127, 128, 129, 191, 192, 193, 254, 255, 256} {
		w := many(n, "a")
		for at := range n + 1 {
			holdEnds(t, of(6, a()), w, at, upTo(at, n, 1)...)
			holdEnds(t, b(), w, at)
			holdEnds(t, e(), w, at, at)
			holdEnds(t, of(7, a()), w, at, upTo(at+1, n, 1)...)
			holdEnds(t, a(), w, at, upTo(at+1, min(n, at+1), 1)...)
			if at%7 == 0 || at+3 > n {
				holdEnds(t, of(6, of(4, a(), a())), w, at, upTo(at, n, 2)...)
				holdEnds(t, rep(a(), 63, 129), w, at, upTo(at+63, min(n, at+129), 1)...)
				holdEnds(t, rep(a(), n-at, n-at), w, at, n)
				holdEnds(t, rep(a(), n-at+1, -1), w, at)
				holdEnds(t, of(4, of(6, ofSet(sets.All())), b()), w, at)
				holdEnds(t, of(5, e(), rep(a(), 64, 64), rep(a(), n-at, n-at)), w, at, ascending(at, at+64, n)...)
			}
		}
	}
}

// ascending: those of three numbers that rise up to the last one.
func ascending(first, second, third int) []int {
	l := []int{first}
	if second < third {
		l = append(l, second)
	}
	if third > first {
		l = append(l, third)
	}
	return l
}

// What lies ahead of the place says nothing, and what lies behind an end neither.
func TestP1102Surroundings(t *testing.T) {
	next := sample.Chances()
	for range 2000 {
		x := sample.Small(1+next(20), next)
		w := anyWord(next(8), "abc", next)
		want, _ := Ends(x, []byte(w), 0)
		ahead := anyWord(next(80), "abc", next)
		for i := range want {
			want[i] += len(ahead)
		}
		holdEnds(t, x, ahead+w, len(ahead), want...)
		l, _ := Ends(x, []byte(ahead+w+anyWord(next(9), "abc", next)), len(ahead))
		n := 0
		for n < len(l) && l[n] <= len(ahead+w) {
			n++
		}
		if len(l[:n]) != len(want) {
			t.Errorf("of %s and %q Ends tells %v ahead of what is behind, and %v without it", brief(x), ahead+w, l[:n], want)
		}
	}
}

// Full: of words of which a tree says the beginning alone, or more than all. Longest: where the empty word alone is said, where none is, and at the end.
func TestP1102FullAndLongest(t *testing.T) {
	for _, r := range []struct {
		text, word string
		full       bool
		longest    []int
	}{
		{"ab", "ab", true, []int{2, -1, -1}}, {"ab", "abb", false, []int{2, -1, -1, -1}}, {"ab", "a", false, []int{-1, -1}}, {"ab", "", false, []int{-1}}, {"ab", "cab", false, []int{-1, 3, -1, -1}},
		{"a*", "", true, []int{0}}, {"a*", "aab", false, []int{2, 2, 2, 3}}, {"a*", "aaa", true, []int{3, 3, 3, 3}}, {"", "", true, []int{0}}, {"", "a", false, []int{0, 1}}, {"a|ab|abcd", "abc", false, []int{2, -1, -1, -1}}, {"abc|a", "abc", true, []int{3, -1, -1, -1}},
		{"(ab)+", "ababa", false, []int{4, -1, 4, -1, -1, -1}}, {"b?", "ab", false, []int{0, 2, 2}}, {"(a|b){2}", "aba", false, []int{2, 3, -1, -1}}, {"[^\\x00-\\xff]", "", false, []int{-1}}, {"[^\\x00-\\xff]?", "ab", false, []int{0, 1, 2}},
		{".*b", "abab", true, []int{4, 4, 4, 4, -1}}, {"a{2}|a{4}", "aaa", false, []int{2, 3, -1, -1}},
	} {
		x := read(r.text)
		if got := Full(x, []byte(r.word)); got != r.full {
			t.Errorf("Full(%s, %q) = %t", r.text, r.word, got)
		}
		for at, want := range r.longest {
			if got := Longest(x, []byte(r.word), at); got != want {
				t.Errorf("Longest(%s, %q, %d) = %d, want %d", r.text, r.word, at, got, want)
			}
		}
	}
}

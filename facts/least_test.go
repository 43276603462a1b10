package facts

import (
	"bytes"
	"slices"
	"strings"
	"testing"

	"doublet/api"
	"doublet/sample"
	"doublet/tree"
)

// holdReads: a text's tree has a least word; where there is none, ok is false.
func holdReads(t *testing.T, text, want string, ok bool) {
	t.Helper()
	if ok {
		holdLeast(t, read(text), want)
	} else {
		holdNoWord(t, read(text))
	}
}

func TestP1005Least(t *testing.T) {
	for text, want := range map[string]string{
		"": "", "a": "a", "abc": "abc", "a*": "", "a+": "a", "a?": "", "a?b": "b", "a*b+c?": "b", "[c-f]": "c", ".": "\x00", "[^\\x00-\\x7f]": "\x80", "\\xff": "\xff", "(a|bc)+": "a",
		// The shorter one, wherever it stands, whatever its bytes are.
		"aa|b": "b", "b|aa": "b", "aaa|aa|z": "z", "z|aaa|aa": "z", "aaa|z|aa": "z", "bb|aaa|aa|ab|c{2}": "aa", "\\xff|aa": "\xff", "a|": "", "|a": "", "abc|ab|abcd": "ab",
		// Of words of one length the first byte that differs tells: the first, a middle and the last one.
		"bab|abb|abc": "abb", "abb|abc|bab": "abb", "aab|aba|aaa": "aaa", "abcde|abcdd|abcdf": "abcdd", "abcde|abade|abbde": "abade", "abcde|bbcde": "abcde", "abz|acy|adx": "abz", "ba|ab": "ab", "ab|ba": "ab",
		// Bytes are without a sign.
		"\\x80|\\x7f": "\x7f", "\\x7f|\\x80": "\x7f", "\\xff|\\x01": "\x01", "a\\xff|a\\x80|a\\xfe": "a\x80", "\\x80\\x80|\\x80\\x7f": "\x80\x7f", "a\\xffb|a\\x7fc": "a\x7fc", "\\x00|\\xff": "\x00", "\\xff\\x00|\\x00\\xff": "\x00\xff",
		// So often as there has to be one.
		"a{3}": "aaa", "a{2,5}": "aa", "a{2,}": "aa", "a{0}": "", "a{0,9}": "", "(ab){3}": "ababab", "(ab|ba){2}": "abab", "(b|aa){3}": "bbb", "([cb]d?){2,}e": "bbe", "((ab){2}c){2}": "ababcababc", "((a|b){2}|c){2}": "cc",
		"(a{3}|b{2}){2}c": "bbbbc", "(aa|b)(cc|d)(|e)": "bd", "(ba|ab|bb)(c|b|a)": "aba", "x(|y)z": "xz", "(a|bc)+d*(e|fg){2}": "aee", "()a()": "a", "(()|b)a": "a",
		// What says no word is as if it were not there; what it stands in has none either.
		"[^\\x00-\\xff]|b": "b", "b|[^\\x00-\\xff]": "b", "(a[^\\x00-\\xff]|bc)d": "bcd", "[^\\x00-\\xff]*": "", "a([^\\x00-\\xff]b)?c": "ac", "(a[^\\x00-\\xff]){0,7}b": "b",
	} {
		holdReads(t, text, want, true)
	}
	for _, text := range []string{"[^\\x00-\\xff]", "a[^\\x00-\\xff]", "[^\\x00-\\xff]a", "a[^\\x00-\\xff]b", "[^\\x00-\\xff]+", "[^\\x00-\\xff]{1,5}", "[^\\x00-\\xff]|[^\\x00-\\xff]", "(a|b)*[^\\x00-\\xff](a|b)*", "(a[^\\x00-\\xff]|[^\\x00-\\xff]b){2}"} {
		holdReads(t, text, "", false)
	}
}

// Each pair of bytes, alone and within words.
func TestP1005EachPairOfBytes(t *testing.T) {
	for i := range 256 {
		for j := range 256 {
			x, y := byte(i), byte(j)
			for _, frame := range []string{"|", "a|", "|b", "\xffa|b\x80"} {
				front, back, _ := strings.Cut(frame, "|")
				one, other := front+string([]byte{x})+back, front+string([]byte{y})+back
				got, ok := Least(tree.Alt(tree.Word([]byte(one)...), tree.Word([]byte(other)...)), len(one))
				if want := min(one, other); string(got) != want || !ok {
					t.Errorf("of %q and %q Least is %q, %t", one, other, got, ok)
				}
			}
		}
	}
}

// Words of several lengths in any order, one and many, alone and within others.
func TestP1005ManyWords(t *testing.T) {
	next := sample.Chances()
	for range 5000 {
		var l []api.Node
		var least []byte
		for i := range 1 + next(12) {
			w := make([]byte, 1+next(4))
			for i := range w {
				w[i] = "ab\x7f\x80\x00\xff"[next(6)]
			}
			l = append(l, tree.Word(w...))
			if i == 0 || len(w) < len(least) || len(w) == len(least) && bytes.Compare(w, least) < 0 {
				least = w
			}
		}
		holdLeast(t, tree.Alt(l...), string(least))
		holdLeast(t, of(7, of(5, none(), tree.Alt(l...))), string(least))
		holdLeast(t, of(4, of(8, a()), tree.Alt(l...), c()), string(least)+"c")
		holdLeast(t, rep(tree.Alt(l...), 3, 5), many(3, string(least)))
	}
}

// Words of many bytes, about their lengths.
func TestP1005Long(t *testing.T) {
	x, want := rep(rep(of(4, a(), b()), 1000, 1000), 100, -1), many(100000, "ab")
	holdLeast(t, x, want)
	holdLeast(t, of(4, x, x, c()), want+want+"c")
	holdLeast(t, of(7, of(4, c(), x)), "c"+want)
	holdLeast(t, of(5, of(4, x, b()), of(4, x, a()), of(4, x, c())), want+"a")
	holdLeast(t, of(5, of(4, b(), x), of(4, a(), x), of(4, c(), x)), "a"+want)
	holdLeast(t, of(5, of(4, x, b(), x), of(4, x, a(), x), of(4, x, c(), x)), want+"a"+want)
	holdLeast(t, of(5, x, of(4, x, a()), of(6, of(4, x, x))), "")
	holdLeast(t, of(5, x, of(4, x, a())), want)
	// A shorter one is written in more nodes, and has greater bytes.
	holdLeast(t, of(5, x, rep(leaf(255), 1000, 1000), rep(rep(leaf(255), 2, 2), 499, 499)), many(998, "\xff"))
	for _, n := range []int{1 << 20, 1<<24 - 1} {
		word, ok := Least(exactly(n), n)
		if !ok || len(word) != n || bytes.Count(word, []byte("a")) != n {
			t.Errorf("Least of %d bytes has %d, %t", n, len(word), ok)
		}
		holdWord(t, exactly(n), n-1, "", false)
	}
	// Many nodes within each other, each behind a long word, or beside another one.
	deep, other := rep(rep(a(), 1000, 1000), 100, 100), of(4, rep(rep(a(), 1000, 1000), 100, 100), b())
	for range 900 {
		deep = of(4, deep, b())
	}
	holdLeast(t, deep, many(100000, "a")+many(900, "b"))
	for range 300 {
		deep = of(5, deep, other)
	}
	holdLeast(t, deep, many(100000, "a")+"b")
	x = rep(a(), 1000, 1000)
	for i := range 300 {
		x = of(5, of(4, x, leaf(byte(i))), of(4, leaf(byte(i)), rep(a(), 1000, 1000)))
		if i == 200 {
			holdLeast(t, x, "\xc8"+many(1000, "a"))
		}
	}
}

// Shortest words that are far longer than most: the call ends at once.
func TestP1005FarTooLong(t *testing.T) {
	x := a()
	for n := 1; n <= 40; n++ {
		x = rep(x, 1000, 1000)
		for _, most := range []int{least, -1, 0, 1, 999} {
			holdWord(t, x, most, "", false)
			holdWord(t, of(5, x, of(4, x, x), x), most, "", false)
			holdWord(t, of(4, of(6, x), x, a()), most, "", false)
			holdWord(t, of(7, of(4, a(), x)), most, "", false)
		}
		if n > 3 {
			holdNoWord(t, x)
			holdNoWord(t, of(4, b(), x))
		}
		// Where there is a short word, too, the long one does no harm.
		for _, y := range []api.Node{of(5, x, b()), of(5, b(), x), of(5, of(4, x, a()), b(), x), of(4, of(6, x), b(), of(8, x)), of(4, rep(x, 0, 1000), b()), of(4, of(6, of(5, x, of(4, x, a()))), b())} {
			if n > 1 {
				holdLeast(t, y, "b")
			}
		}
	}
	// Many alternatives, none of which is short enough.
	for _, n := range []int{3, 4, 1000} {
		long := rep(rep(rep(a(), 1000, 1000), 1000, 1000), 1000, 1000)
		y := sample.Beside(5, n, long)
		holdWord(t, y, 1e9-1, "", false)
		holdWord(t, of(4, y, b()), 1e9, "", false)
		holdLeast(t, of(4, of(8, y), b()), "b")
	}
}

// said: the least word of a tree, kind by kind; none, if it has more than most bytes.
func said(x api.Node, most int) (string, bool) {
	var l []string
	for _, kid := range x.Kids {
		w, ok := said(kid, most)
		if ok {
			l = append(l, w)
		}
	}
	lo := 1
	switch x.Kind {
	case 1:
		return "", false
	case 2, 6, 8:
		return "", true
	case 3:
		for n := range 256 {
			if most > 0 && hasByte(x.Set, byte(n)) {
				return string([]byte{byte(n)}), true
			}
		}
		return "", false
	case 4:
		w := strings.Join(l, "")
		if len(l) < len(x.Kids) || len(w) > most {
			return "", false
		}
		return w, true
	case 5:
		slices.SortFunc(l, func(v, w string) int {
			if len(v) != len(w) {
				return len(v) - len(w)
			}
			return strings.Compare(v, w)
		})
		if len(l) == 0 {
			return "", false
		}
		return l[0], true
	case 9:
		lo = x.Lo
	}
	if lo == 0 {
		return "", true
	}
	if len(l) == 0 || lo*len(l[0]) > most {
		return "", false
	}
	return many(lo, l[0]), true
}

// Random trees of many nodes, all bytes and great numbers.
func TestP1005RandomTrees(t *testing.T) {
	next := sample.Chances()
	words, long, none := 0, 0, 0
	for i := range 6000 {
		x := sample.Grown(1+next(60), next)
		if i%2 == 0 {
			x = greatly(2+next(16), next)
		}
		const most = 100000
		want, ok := said(x, most)
		switch {
		case ok:
			holdLeast(t, x, want)
			words++
			if len(want) > 100 {
				long++
			}
		case Hollow(x):
			holdNoWord(t, x)
			none++
		default:
			holdWord(t, x, most, "", false)
		}
		if ok && (Shortest(x) != len(want) || Nullable(x) != (want == "") || want != "" && (!hasByte(First(x), want[0]) || !hasByte(Last(x), want[len(want)-1]))) {
			t.Errorf("the least word of %s is %.60q, and other calls tell otherwise", brief(x), want)
		}
		if t.Failed() {
			return
		}
	}
	if min(words, long, none) < 300 {
		t.Errorf("%d trees have a word, %d a long one, %d none", words, long, none)
	}
}

func hasByte(s api.Set, c byte) bool { return s[c/64]>>(c%64)&1 == 1 }

// lesser: of two words the least one.
func lesser(v, w string) string {
	if len(v) < len(w) || len(v) == len(w) && v < w {
		return v
	}
	return w
}

// Trees one behind the other, and one or the other, as each one alone.
func TestP1006Joined(t *testing.T) {
	next := sample.Chances()
	trees := func(i int) api.Node {
		switch i % 3 {
		case 0:
			return small(1+next(9), next)
		case 1:
			return greatly(1+next(5), next)
		}
		return sample.Grown(1+next(40), next)
	}
	const most = 1 << 14
	both, one := 0, 0
	for i := range 9000 {
		x, y := trees(i), trees(i/3)
		v, ok := Least(x, most)
		w, also := Least(y, most)
		cat, alt := of(4, x, y), of(5, x, y)
		switch {
		case ok && also:
			holdLeast(t, cat, string(v)+string(w))
			holdLeast(t, alt, lesser(string(v), string(w)))
			holdLeast(t, of(5, y, x), lesser(string(v), string(w)))
			both++
		case ok || also:
			// The other one is none, and so it stays behind it.
			holdWord(t, cat, most, "", false)
			holdLeast(t, alt, string(v)+string(w))
			one++
		default:
			holdWord(t, cat, most, "", false)
			holdWord(t, alt, most, "", false)
		}
		if t.Failed() {
			return
		}
	}
	if min(both, one) < 500 {
		t.Errorf("both trees had a word %d times, one %d times", both, one)
	}
}

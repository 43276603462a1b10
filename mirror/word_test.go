package mirror

import (
	"slices"
	"testing"

	"doublet/sample"
)

// holdWord: of a word Word tells just that one, and of that one it.
func holdWord(t *testing.T, w, want string) {
	t.Helper()
	for _, pair := range [][2]string{{w, want}, {want, w}} {
		if got := Word([]byte(pair[0])); string(got) != pair[1] {
			t.Errorf("Word(%q) is %q, want %q", front(pair[0]), front(string(got)), front(pair[1]))
		}
	}
}

func TestP1802Word(t *testing.T) {
	holdWord(t, "a", "a")
	holdWord(t, "\x00", "\x00")
	holdWord(t, "ab", "ba")
	holdWord(t, "aa", "aa")
	holdWord(t, "abc", "cba")
	holdWord(t, "aab", "baa")
	holdWord(t, "abcd", "dcba")
	holdWord(t, "\x00\x00\x01", "\x01\x00\x00")
	holdWord(t, "\xff\x80\x7f\n ", " \n\x7f\x80\xff")
	// Bytes are turned round, not the letters that they may stand for.
	holdWord(t, "\xc3\xa9x", "x\xa9\xc3")
	for _, w := range []string{"aba", "abba", "abcba", "\x00\xff\x00", "bbbb", "abcdedcba"} {
		holdWord(t, w, w)
	}
}

func TestP1802WordOfNoByte(t *testing.T) {
	for _, w := range [][]byte{nil, {}, make([]byte, 0, 9)} {
		if got := Word(w); len(got) != 0 {
			t.Errorf("Word of no byte is %q", got)
		}
	}
}

// All bytes, each at each place of a word of all of them.
func TestP1802WordOfAllBytes(t *testing.T) {
	w, v := make([]byte, 256), make([]byte, 256)
	for first := range 256 {
		for i := range 256 {
			w[i], v[255-i] = byte(first+i), byte(first+i)
		}
		holdWord(t, string(w), string(v))
		holdWord(t, string(w[:1]), string(v[255:]))
		holdWord(t, string(w[:77]), string(v[179:]))
	}
}

// All words of few bytes, and random ones, long ones too.
func TestP1802WordModelled(t *testing.T) {
	next := sample.Chances()
	words := append(sample.AllWords("ab\xff", 6), sample.AllWords("abcd", 4)...)
	for n := range 600 {
		words = append(words, sample.AnyWord(n, sample.Edgy, next))
	}
	for _, w := range words {
		holdWord(t, w, reversed(w))
		if twice := Word(Word([]byte(w))); string(twice) != w {
			t.Errorf("Word, twice, of %q is %q", w, twice)
		}
	}
}

// The room behind a word is none of its bytes.
func TestP1802WordWithRoom(t *testing.T) {
	for _, w := range sample.AllWords("ab\x00", 4) {
		if got := Word(sample.RoomyText(w)); string(got) != reversed(w) {
			t.Errorf("with room behind Word(%q) is %q", w, got)
		}
	}
	all := []byte("abcdefgh")
	for lo := range len(all) + 1 {
		for hi := lo; hi <= len(all); hi++ {
			if got := Word(all[lo:hi]); string(got) != reversed(string(all[lo:hi])) {
				t.Errorf("of %q from %d to %d Word is %q", all, lo, hi, got)
			}
		}
	}
	if string(all) != "abcdefgh" {
		t.Errorf("a word became %q", all)
	}
}

func TestP1802LongWords(t *testing.T) {
	for _, n := range []int{65535, 65536, 1 << 20, 1<<26 + 1} {
		w := slices.Repeat([]byte("x"), n)
		w[0], w[1], w[n-3] = 'a', 'b', 'c'
		v := Word(w)
		if len(v) != n || v[n-1] != 'a' || v[n-2] != 'b' || v[2] != 'c' || v[0] != 'x' {
			t.Errorf("Word of %d bytes has %d, and is not turned round", n, len(v))
		}
		slices.Reverse(v)
		if !slices.Equal(v, w) {
			t.Errorf("Word of %d bytes has other ones", n)
		}
	}
}

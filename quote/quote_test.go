package quote

import (
	"bytes"
	"math"
	"slices"
	"strings"
	"testing"
)

// plainly: all Plain bytes, as the chapter says which ones they are, written out.
const plainly = "!\"#$%&'()*+,-./0123456789:;<=>?@ABCDEFGHIJKLMNOPQRSTUVWXYZ[]^_`abcdefghijklmnopqrstuvwxyz{|}~"

// model writes a byte by a way of its own.
func model(c byte) string {
	if strings.IndexByte(plainly, c) >= 0 {
		return string([]byte{c})
	}
	const sixteen = "0123456789abcdef"
	return "\\x" + sixteen[c>>4:c>>4+1] + sixteen[c&15:c&15+1]
}

func modelAll(b []byte) string {
	if len(b) == 0 {
		return "\\e"
	}
	s := ""
	for _, c := range b {
		s += model(c)
	}
	return s
}

func every() []byte {
	b := make([]byte, 256)
	for i := range b {
		b[i] = byte(i)
	}
	return b
}

// rows: rows of bytes, about the edges of what is Plain.
func rows() [][]byte {
	l := [][]byte{
		{}, []byte("a \\"), []byte("\\e"), []byte("\\x61"), []byte("\\\\"), []byte("x"), []byte("e"), []byte("e\\"), []byte("\\x"),
		{0, 32, 33, 91, 92, 93, 126, 127, 128, 255}, {255, 128, 127, 126, 93, 92, 91, 33, 32, 0},
		every(), bytes.Repeat([]byte{0}, 3), bytes.Repeat([]byte("\\"), 5), bytes.Repeat(every(), 20),
	}
	for c := range 256 {
		l = append(l, []byte{byte(c)}, []byte{byte(c), 'a'}, []byte{' ', byte(c)})
	}
	return l
}

func TestP301ArgumentsStay(t *testing.T) {
	room := []byte{'a', 0, '\\', 200, 7, 7, 7}
	kept := slices.Clone(room)
	Quote(room[:4])
	if !bytes.Equal(room, kept) {
		t.Errorf("Quote changed its bytes: %v", room)
	}
}

func TestP301NewMemory(t *testing.T) {
	for _, b := range rows() {
		s := Quote(b)
		first, _ := Unquote(s)
		room := first[:cap(first)]
		for i := range room {
			room[i] = '#'
		}
		if second, ok := Unquote(s); !ok || !bytes.Equal(second, b) {
			t.Errorf("Unquote(%q) = %v, %v behind a change of an earlier answer", s, second, ok)
		}
		given := slices.Clone(b)
		held := Quote(given)
		for i := range given {
			given[i] = '#'
		}
		if held != s || Quote(b) != s {
			t.Errorf("Quote(%v) = %q and %q, want %q", b, held, Quote(b), s)
		}
	}
}

func TestP302Digit(t *testing.T) {
	const sixteen = "0123456789abcdef"
	for n := range 16 {
		if got := Digit(n); got != sixteen[n] {
			t.Errorf("Digit(%d) = %q", n, got)
		}
	}
	for _, n := range []int{-1, -2, -16, -240, math.MinInt, 16, 17, 32, 255, 256, 271, 1 << 32, math.MaxInt} {
		if got := Digit(n); got != 0 {
			t.Errorf("Digit(%d) = %q, want 0", n, got)
		}
	}
}

func TestP302Value(t *testing.T) {
	for i := range 256 {
		c, want := byte(i), -1
		switch {
		case '0' <= c && c <= '9':
			want = i - '0'
		case 'a' <= c && c <= 'f':
			want = i - 'a' + 10
		}
		if got := Value(c); got != want {
			t.Errorf("Value(%q) = %d, want %d", c, got, want)
		}
	}
}

func TestP302Plain(t *testing.T) {
	for c := range 256 {
		if got, want := Plain(byte(c)), 33 <= c && c <= 126 && c != 92; got != want {
			t.Errorf("Plain(%d) = %v", c, got)
		}
	}
}

func TestP303Quote(t *testing.T) {
	for b, want := range map[string]string{
		"": `\e`, "abc": "abc", "a \\": `a\x20\x5c`, "\x00": `\x00`, " ": `\x20`, "!": "!", "[": "[", "\\": `\x5c`, "]": "]",
		"~": "~", "\x7f": `\x7f`, "\x80": `\x80`, "\xff": `\xff`, "\n\t": `\x0a\x09`, "\\e": `\x5ce`, "\xc3\xa9": `\xc3\xa9`,
	} {
		if got := Quote([]byte(b)); got != want {
			t.Errorf("Quote(%q) = %q, want %q", b, got, want)
		}
	}
	if got := Quote(nil); got != `\e` {
		t.Errorf("Quote(nil) = %q", got)
	}
	for _, b := range rows() {
		if got, want := Quote(b), modelAll(b); got != want {
			t.Errorf("Quote(%v) = %q, want %q", b, got, want)
		}
	}
}

func TestP303Unquote(t *testing.T) {
	for s, want := range map[string]string{`\e`: "", "abc": "abc", `a\x20\x5c`: "a \\", `\x00\xff`: "\x00\xff", `\x5ce`: "\\e", "x5c": "x5c", `\x5cx5c`: "\\x5c", `\x7fe`: "\x7fe"} {
		if got, ok := Unquote(s); !ok || string(got) != want {
			t.Errorf("Unquote(%q) = %q, %v, want %q", s, got, ok, want)
		}
	}
}

func TestP303UnquoteOfNone(t *testing.T) {
	l := []string{
		"", `\`, `\\`, `a\`, `\a`, `\n`, `\E`, `\X00`, `x\`, `\x5c\`,
		`\ea`, `a\e`, `\e\e`, `\x00\e`, `\e\x00`, "\\e ", " \\e",
		`\x`, `\x2`, `\x0`, `a\x2`, `\x00\x2`, `\x00\x`, `\x2\x`, `\x\x00`,
		`\x2g`, `\xg2`, `\x2G`, `\x0A`, `\xA0`, `\xFF`, `\xfF`, `\xFf`, `\x 0`, `\x0 `, "\\x0\x00", "\\x\x000", `\x-1`, `\x0/`, `\x0:`, "\\x0`", `\x/0`, `\x:0`, "\\x`0",
		`\x61`, `a\x62c`, `\x21`, `\x7e`, `\x5b`, `\x5d`, `\x30`,
		" ", "a b", "a ", " a", "\x00", "a\x7f", "\x80", "\xff", "a\nb", "é", `\x00 `,
	}
	for c := range 256 {
		switch one := string([]byte{byte(c)}); {
		case model(byte(c)) == one:
			const sixteen = "0123456789abcdef"
			l = append(l, "\\x"+sixteen[c>>4:c>>4+1]+sixteen[c&15:c&15+1])
		default:
			l = append(l, one, "a"+one, one+"a")
		}
		if strings.IndexByte("0123456789abcdef", byte(c)) < 0 {
			// The other Digit is such that the byte would not be Plain.
			l = append(l, "\\x0"+string([]byte{byte(c)}), "\\x"+string([]byte{byte(c)})+"0")
		}
	}
	for _, s := range l {
		if got, ok := Unquote(s); ok || got != nil {
			t.Errorf("Unquote(%q) = %q, %v, want none, false", s, got, ok)
		}
	}
}

func TestP304BytesBack(t *testing.T) {
	for _, b := range rows() {
		if got, ok := Unquote(Quote(b)); !ok || !bytes.Equal(got, b) {
			t.Errorf("Unquote(Quote(%v)) = %v, %v", b, got, ok)
		}
	}
}

// Of all short texts of some bytes those that are read are the Quote of what is read.
func TestP304TextsBack(t *testing.T) {
	texts := []string{""}
	right := 0
	for range 5 {
		var longer []string
		for _, s := range texts {
			for _, c := range []string{"\\", "x", "e", "0", "7", "A", " ", "\xff"} {
				longer = append(longer, s+c)
			}
		}
		for _, s := range longer {
			if b, ok := Unquote(s); ok {
				right++
				if got := Quote(b); got != s {
					t.Errorf("Quote(Unquote(%q)) = %q", s, got)
				}
			}
		}
		texts = longer
	}
	if right == 0 {
		t.Error("no text was read")
	}
}

func TestP305Parts(t *testing.T) {
	whole := rows()
	for _, a := range [][]byte{{0}, {92}, []byte("e"), []byte("\\"), []byte("x0"), []byte("\\x"), every()} {
		for _, b := range whole {
			if len(b) == 0 {
				continue
			}
			if got, want := Quote(slices.Concat(a, b)), Quote(a)+Quote(b); got != want {
				t.Errorf("Quote(%v %v) = %q, want %q", a, b, got, want)
			}
			if got, want := Quote(slices.Concat(b, a)), Quote(b)+Quote(a); got != want {
				t.Errorf("Quote(%v %v) = %q, want %q", b, a, got, want)
			}
		}
	}
}

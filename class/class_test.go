package class

import (
	"bytes"
	"math"
	"slices"
	"strings"
	"testing"

	"doublet/api"
	"doublet/sets"
)

const (
	greatest = math.MaxInt
	least    = math.MinInt
	sixteen  = "0123456789abcdef"
	// punctuation: the bytes from 33 to 126 that are no letter and no digit, written out.
	punctuation = "!\"#$%&'()*+,-./:;<=>?@[\\]^_`{|}~"
)

func every() []byte {
	b := make([]byte, 256)
	for i := range b {
		b[i] = byte(i)
	}
	return b
}

func coding(c byte) string { return "\\x" + sixteen[c>>4:c>>4+1] + sixteen[c&15:c&15+1] }

// escapes: all escapes that there are, with what they say.
func escapes() map[string]byte {
	m := map[string]byte{`\n`: 10, `\t`: 9, `\r`: 13}
	for _, c := range every() {
		m[coding(c)] = c
	}
	for _, c := range []byte(punctuation) {
		m["\\"+string(rune(c))] = c
	}
	return m
}

// escaped: Escape, by looking its text up among all that there are.
func escaped(all map[string]byte, b []byte, at int) (byte, int, api.Bad) {
	if at < 0 || at >= len(b) || b[at] != '\\' {
		return 0, 0, api.Bad{Kind: api.ErrArg}
	}
	for _, n := range []int{2, 4} {
		if at+n > len(b) {
			break
		}
		if c, ok := all[string(b[at:at+n])]; ok {
			return c, at + n, api.Bad{}
		}
	}
	return 0, 0, api.Bad{Kind: api.ErrEscape, At: at}
}

// The steps of a class, by what was read just now.
const (
	opened = iota // [
	turned        // [^
	one           // a char, that may be an item, or begin one
	dashed        // a char and -
	two           // an item of two chars
)

// read: Read, as a table of steps: what may stand behind what.
func read(all map[string]byte, b []byte, at int) (api.Set, int, api.Bad) {
	if at < 0 || at >= len(b) || b[at] != '[' {
		return api.Set{}, 0, api.Bad{Kind: api.ErrArg}
	}
	var in [256]bool
	step, others := opened, false
	begin, first := 0, byte(0)
	for place := at + 1; place < len(b); {
		c, behind, char := b[place], place+1, true
		switch {
		case c == '\\':
			said, next, bad := escaped(all, b, place)
			if bad != (api.Bad{}) {
				return api.Set{}, 0, bad
			}
			c, behind = said, next
		case c == '\n' || c == '[' || c == ']' || c == '^' || c == '-':
			char = false
		}
		switch {
		case char && step == dashed:
			if first > c {
				return api.Set{}, 0, api.Bad{Kind: api.ErrOrder, At: begin}
			}
			for i := int(first); i <= int(c); i++ {
				in[i] = true
			}
			step = two
		case char:
			in[c], begin, first, step = true, place, c, one
		case c == '^' && step == opened:
			others, step = true, turned
		case c == '-' && step == one:
			step = dashed
		case c == ']' && (step == one || step == two):
			return setOf(func(i int) bool { return in[i] != others }), behind, api.Bad{}
		default:
			return api.Set{}, 0, api.Bad{Kind: api.ErrClass, At: place}
		}
		place = behind
	}
	return api.Set{}, 0, api.Bad{Kind: api.ErrClass, At: at}
}

func setOf(in func(int) bool) api.Set {
	var s api.Set
	for i := range 256 {
		if in(i) {
			s[i/64] |= 1 << (i % 64)
		}
	}
	return s
}

// char: what Char writes, written out.
func char(c byte) string {
	switch {
	case c == '\n':
		return "\\n"
	case c == '\t':
		return "\\t"
	case c == '\r':
		return "\\r"
	case c == '\\' || c == '[' || c == ']' || c == '^' || c == '-':
		return "\\" + string(rune(c))
	case 33 <= c && c <= 126:
		return string(rune(c))
	}
	return coding(c)
}

// show: Show, byte by byte.
func show(s api.Set) string {
	var in [257]bool
	n := 0
	for i := range 256 {
		in[i] = s[i/64]>>(i%64)&1 == 1
		if in[i] {
			n++
		}
	}
	text := "["
	if n == 0 || 129 <= n && n <= 255 {
		text = "[^"
		for i := range 256 {
			in[i] = !in[i]
		}
	}
	for i := 0; i < 256; i++ {
		if !in[i] {
			continue
		}
		text += char(byte(i))
		end := i
		for in[end+1] {
			end++
		}
		switch {
		case end == i+1:
			text += char(byte(end))
		case end > i+1:
			text += "-" + char(byte(end))
		}
		i = end
	}
	return text + "]"
}

// samples: none, all, one byte, all but one, spans of all lengths, and mixed sets, thin and thick ones.
func samples() []api.Set {
	l := []api.Set{{}, sets.All()}
	for _, c := range every() {
		l = append(l, sets.Of(c), sets.Not(sets.Of(c)))
		for _, n := range []int{1, 2, 3, 127, 128, 129} {
			if int(c)+n < 256 {
				l = append(l, sets.Span(c, c+byte(n)))
			}
		}
	}
	for n := range 256 {
		l = append(l, setOf(func(i int) bool { return i*167%256 < n }))
	}
	// A row of numbers that is always the same.
	x := uint64(88172645463325252)
	next := func() uint64 {
		x ^= x << 13
		x ^= x >> 7
		x ^= x << 17
		return x
	}
	for range 300 {
		l = append(l, api.Set{next(), next(), next(), next()})
		l = append(l, api.Set{next() & next() & next(), 0, next() & next() & next(), next() & next()})
		l = append(l, api.Set{next() | next() | next(), next() | next(), ^uint64(0), next() | next()})
	}
	return l
}

// holdRead tells where Read is not what is wanted; and beside a Bad every other answer is zero.
func holdRead(t *testing.T, b []byte, at int, set api.Set, behind int, bad api.Bad) {
	t.Helper()
	s, n, err := Read(b, at)
	if s != set || n != behind || err != bad {
		t.Errorf("Read(%q, %d) = %x, %d, %v, want %x, %d, %v", b, at, s, n, err, set, behind, bad)
	}
	if err != (api.Bad{}) && (s != (api.Set{}) || n != 0) {
		t.Errorf("Read(%q, %d) answers %x, %d beside %v", b, at, s, n, err)
	}
}

func holdEscape(t *testing.T, b []byte, at int, c byte, behind int, bad api.Bad) {
	t.Helper()
	got, n, err := Escape(b, at)
	if got != c || n != behind || err != bad {
		t.Errorf("Escape(%q, %d) = %d, %d, %v, want %d, %d, %v", b, at, got, n, err, c, behind, bad)
	}
	if err != (api.Bad{}) && (got != 0 || n != 0) {
		t.Errorf("Escape(%q, %d) answers %d, %d beside %v", b, at, got, n, err)
	}
}

func TestP401ArgumentsStay(t *testing.T) {
	for _, s := range []string{`[^a-c\x41\n]]\x41`, `[z-a]`, `[a\q]`, `\x41`, `\q`} {
		room := append([]byte(s), make([]byte, 20)...)
		kept := slices.Clone(room)
		Read(room[:len(s)], 0)
		Escape(room[:len(s)], 0)
		if !bytes.Equal(room, kept) {
			t.Errorf("%q became %q", kept, room)
		}
	}
}

// The room behind b is not b: what lies there must not be read.
func TestP401TheEndIsTheEnd(t *testing.T) {
	for _, s := range []string{`\x41`, `\n`, `\x`, `[a]`, `[^a-c]`, `[\x41-\x43]`, `[a-\n]`} {
		for n := range len(s) {
			part := slices.Clone([]byte(s)[:n])
			c, at, bad := Escape(part, 0)
			holdEscape(t, []byte(s)[:n], 0, c, at, bad)
			set, at, bad := Read(part, 0)
			holdRead(t, []byte(s)[:n], 0, set, at, bad)
		}
	}
	holdEscape(t, []byte(`\x41`)[:3], 0, 0, 0, api.Bad{Kind: api.ErrEscape})
	holdRead(t, []byte(`[a]`)[:2], 0, api.Set{}, 0, api.Bad{Kind: api.ErrClass})
}

func TestP402Arguments(t *testing.T) {
	arg := api.Bad{Kind: api.ErrArg}
	for _, c := range []struct {
		b  string
		at int
	}{
		{"", 0}, {"", 1}, {"", -1}, {"", least}, {"", greatest},
		{`\n`, -1}, {`\n`, -2}, {`\n`, least}, {`\n`, 2}, {`\n`, 3}, {`\n`, 1 << 32}, {`\n`, greatest},
		{`\n`, 1}, {"a", 0}, {"/", 0}, {"[", 0}, {"]", 0}, {`n\n`, 0}, {`a\n`, 2}, {"\x00", 0}, {"\xdc", 0},
	} {
		holdEscape(t, []byte(c.b), c.at, 0, 0, arg)
	}
	holdEscape(t, nil, 0, 0, 0, arg)
	for _, c := range every() {
		if c != '\\' {
			holdEscape(t, []byte{c, 'n'}, 0, 0, 0, arg)
		}
	}
}

func TestP402Escape(t *testing.T) {
	for _, c := range []struct {
		b      string
		at     int
		want   byte
		behind int
	}{
		{`\n`, 0, 10, 2}, {`\t`, 0, 9, 2}, {`\r`, 0, 13, 2},
		{`\x00`, 0, 0, 4}, {`\x61`, 0, 'a', 4}, {`\x0a`, 0, 10, 4}, {`\xa0`, 0, 160, 4}, {`\xff`, 0, 255, 4}, {`\x7f`, 0, 127, 4},
		{`\x616`, 0, 'a', 4}, {`\x61\x62`, 4, 'b', 8}, {`\nn`, 0, 10, 2}, {`\n\n`, 2, 10, 4},
		{`\\`, 0, '\\', 2}, {`\\\n`, 0, '\\', 2}, {`\\n`, 0, '\\', 2}, {`\\n`, 1, 10, 3},
		{`a\*`, 1, '*', 3}, {`a\*b`, 1, '*', 3}, {`ab\-cd`, 2, '-', 4}, {"\x00\xff\\x41\xff\x00", 2, 'A', 6}, {`\_`, 0, '_', 2},
	} {
		holdEscape(t, []byte(c.b), c.at, c.want, c.behind, api.Bad{})
	}
	for s, c := range escapes() {
		holdEscape(t, []byte(s), 0, c, len(s), api.Bad{})
		holdEscape(t, []byte("xyz"+s+"0f]"), 3, c, 3+len(s), api.Bad{})
		holdEscape(t, []byte("\\"+s+"\\"), 1, c, 1+len(s), api.Bad{})
	}
}

func TestP402NoEscape(t *testing.T) {
	for _, s := range []string{
		`\`, `\x`, `\x4`, `\x4 `, `\x4g`, `\xg4`, `\x4G`, `\x\x41`, `\x4\n`, `\xx41`, `\x-1`, `\x+1`, `\x 41`, "\\x\x04\x01",
		`\x4A`, `\xA4`, `\xAA`, `\xFF`, `\xfF`, `\xFf`, `\X41`, `\x0A`,
		`\e`, `\a`, `\b`, `\f`, `\v`, `\s`, `\d`, `\w`, `\N`, `\T`, `\R`, `\z`, `\A`, `\Z`, `\0`, `\9`, `\u0041`, `\101`,
		`\ `, "\\\n", "\\\t", "\\\x00", "\\\x7f", "\\\x80", "\\\xff", "\\\xc3\xa9",
	} {
		holdEscape(t, []byte(s), 0, 0, 0, api.Bad{Kind: api.ErrEscape})
		holdEscape(t, []byte("a\\"+s), 2, 0, 0, api.Bad{Kind: api.ErrEscape, At: 2})
		holdEscape(t, []byte(strings.Repeat("b", 70)+s), 70, 0, 0, api.Bad{Kind: api.ErrEscape, At: 70})
	}
}

// \ with each byte behind, and \x with each byte at either place of its digits, and at both.
func TestP402EveryByte(t *testing.T) {
	all := escapes()
	hold := func(b []byte, at int) {
		t.Helper()
		c, behind, bad := escaped(all, b, at)
		holdEscape(t, b, at, c, behind, bad)
	}
	for _, c := range every() {
		hold([]byte{'\\', c}, 0)
		hold([]byte{'a', '\\', c, 'a', 'a'}, 1)
		for _, d := range every() {
			hold([]byte{'\\', 'x', c, d}, 0)
			hold([]byte{'\\', c, d, '0'}, 0)
		}
	}
}

func TestP403Arguments(t *testing.T) {
	arg := api.Bad{Kind: api.ErrArg}
	for _, c := range []struct {
		b  string
		at int
	}{
		{"", 0}, {"", 1}, {"", -1}, {"", least}, {"", greatest},
		{"[a]", -1}, {"[a]", -3}, {"[a]", least}, {"[a]", 3}, {"[a]", 4}, {"[a]", 1 << 32}, {"[a]", greatest},
		{"[a]", 1}, {"[a]", 2}, {"a", 0}, {"]", 0}, {`\[a]`, 0}, {"^a]", 0}, {"x[a]", 0}, {"\x00", 0}, {"\xdb", 0},
	} {
		holdRead(t, []byte(c.b), c.at, api.Set{}, 0, arg)
	}
	holdRead(t, nil, 0, api.Set{}, 0, arg)
	for _, c := range every() {
		if c != '[' {
			holdRead(t, []byte{c, 'a', ']'}, 0, api.Set{}, 0, arg)
		}
	}
}

func TestP403Read(t *testing.T) {
	of, span, not := sets.Of, sets.Span, sets.Not
	for _, c := range []struct {
		b      string
		at     int
		set    api.Set
		behind int
	}{
		{"[a]", 0, of('a'), 3}, {"[ab]", 0, of('a', 'b'), 4}, {"[ba]", 0, of('a', 'b'), 4}, {"[aa]", 0, of('a'), 4},
		{"[a-c]", 0, span('a', 'c'), 5}, {"[a-a]", 0, of('a'), 5}, {"[a-b]", 0, of('a', 'b'), 5}, {"[a-cx-z]", 0, sets.Union(span('a', 'c'), span('x', 'z')), 8},
		{"[a-cb-z]", 0, span('a', 'z'), 8}, {"[x-za-c]", 0, sets.Union(span('a', 'c'), span('x', 'z')), 8}, {"[ab-de]", 0, span('a', 'e'), 7},
		{`[a-c\n]x`, 0, of('a', 'b', 'c', 10), 7}, {`[\n-\r]`, 0, span(10, 13), 7}, {`[\t\r]`, 0, of(9, 13), 6},
		{`[\x00-\xff]`, 0, sets.All(), 11}, {`[\x61-c]`, 0, span('a', 'c'), 8}, {`[a-\x63]`, 0, span('a', 'c'), 8}, {`[\xff-\xff]`, 0, of(255), 11}, {`[\x00]`, 0, of(0), 6},
		{`[\]]`, 0, of(']'), 4}, {`[\[]`, 0, of('['), 4}, {`[\\]`, 0, of('\\'), 4}, {`[\^]`, 0, of('^'), 4}, {`[\-]`, 0, of('-'), 4},
		{`[\--a]`, 0, span('-', 'a'), 6}, {`[+-\-]`, 0, span('+', '-'), 6}, {`[a\-z]`, 0, of('a', '-', 'z'), 6}, {`[\^a]`, 0, of('^', 'a'), 5}, {`[a\^]`, 0, of('^', 'a'), 5},
		{"[^a]", 0, not(of('a')), 4}, {"[^a-c]", 0, not(span('a', 'c')), 6}, {`[^\n]`, 0, not(of(10)), 5}, {`[^\^]`, 0, not(of('^')), 5}, {`[^\]]`, 0, not(of(']')), 5},
		{`[^\x00-\xff]`, 0, api.Set{}, 12}, {`[^\x00-\x7f\x80-\xff]`, 0, api.Set{}, 21}, {`[^\x00-\xfe]`, 0, of(255), 12},
		// Bytes that stand for themselves here, whatever they are elsewhere.
		{"[ ]", 0, of(' '), 3}, {"[\x00]", 0, of(0), 3}, {"[\t]", 0, of(9), 3}, {"[\r]", 0, of(13), 3}, {"[\x00-\x1f]", 0, span(0, 31), 5}, {"[\x09-\x0b]", 0, span(9, 11), 5},
		{"[.*+?|(){}]", 0, of([]byte(".*+?|(){}")...), 11}, {"[x0n]", 0, of('x', '0', 'n'), 5},
		{"[\x7f]", 0, of(127), 3}, {"[\x80-\xff]", 0, span(128, 255), 5}, {"[\xc3\xa9]", 0, of(0xc3, 0xa9), 4}, {"[^\x80-\xff]", 0, span(0, 127), 6}, {"[a-\xff]", 0, span('a', 255), 5},
		// What stands behind the ] is another one's, and so is what stands ahead.
		{"[a]]", 0, of('a'), 3}, {"[a]-z]", 0, of('a'), 3}, {"[a][b]", 0, of('a'), 3}, {"[a][b]", 3, of('b'), 6}, {"[a]\\", 0, of('a'), 3}, {"[a-c]\n", 0, span('a', 'c'), 5}, {"[a]^", 0, of('a'), 3},
		{"xy[a]z", 2, of('a'), 5}, {"[[a]", 1, of('a'), 4}, {`\[a]`, 1, of('a'), 4}, {"]^[^a]", 2, not(of('a')), 6},
	} {
		holdRead(t, []byte(c.b), c.at, c.set, c.behind, api.Bad{})
	}
}

func TestP403Wrong(t *testing.T) {
	for _, c := range []struct {
		b    string
		kind api.Errno
		at   int
	}{
		// Ends within, at each place.
		{"[", api.ErrClass, 0}, {"[^", api.ErrClass, 0}, {"[a", api.ErrClass, 0}, {"[^a", api.ErrClass, 0}, {"[a-", api.ErrClass, 0}, {"[^a-", api.ErrClass, 0},
		{"[a-c", api.ErrClass, 0}, {"[a-cd", api.ErrClass, 0}, {`[\n`, api.ErrClass, 0}, {`[\n-`, api.ErrClass, 0}, {`[\t-\n`, api.ErrClass, 0}, {`[\]`, api.ErrClass, 0},
		// No item.
		{"[]", api.ErrClass, 1}, {"[^]", api.ErrClass, 2}, {"[]a]", api.ErrClass, 1}, {"[^]a]", api.ErrClass, 2},
		// A ^ or a - that can't stand there; a [.
		{"[^^]", api.ErrClass, 2}, {"[^^a]", api.ErrClass, 2}, {"[a^]", api.ErrClass, 2}, {"[a-^]", api.ErrClass, 3}, {"[a-c^]", api.ErrClass, 4}, {"[^a^]", api.ErrClass, 3},
		{"[-]", api.ErrClass, 1}, {"[-a]", api.ErrClass, 1}, {"[^-a]", api.ErrClass, 2}, {"[a-]", api.ErrClass, 3}, {"[a--]", api.ErrClass, 3}, {"[a--z]", api.ErrClass, 3},
		{"[a-c-]", api.ErrClass, 4}, {"[a-c-e]", api.ErrClass, 4}, {`[\--]`, api.ErrClass, 4}, {`[a-\--z]`, api.ErrOrder, 1}, {`[a-\~-z]`, api.ErrClass, 5},
		{"[[]", api.ErrClass, 1}, {"[a[]", api.ErrClass, 2}, {"[a-[]", api.ErrClass, 3}, {"[^[]", api.ErrClass, 2}, {"[a-c[]", api.ErrClass, 4},
		// A byte 10.
		{"[\n]", api.ErrClass, 1}, {"[a\n]", api.ErrClass, 2}, {"[^\n]", api.ErrClass, 2}, {"[a-\n]", api.ErrClass, 3}, {"[\t-\n]", api.ErrClass, 3}, {"[\n-a]", api.ErrClass, 1}, {"[a-c\n]", api.ErrClass, 4},
		// Chars that fall.
		{"[z-a]", api.ErrOrder, 1}, {"[b-a]", api.ErrOrder, 1}, {"[qz-a]", api.ErrOrder, 2}, {"[^z-a]", api.ErrOrder, 2}, {"[a-cz-a]", api.ErrOrder, 4}, {"[\xff-\x00]", api.ErrOrder, 1},
		{`[\xff-\x00]`, api.ErrOrder, 1}, {`[q\x7a-a]`, api.ErrOrder, 2}, {"[\x80-\x7f]", api.ErrOrder, 1}, {`[\]-\[]`, api.ErrOrder, 1},
		// A wrong escape: as the first char, the second one, and cut off.
		{`[\q]`, api.ErrEscape, 1}, {`[z\q]`, api.ErrEscape, 2}, {`[^\q]`, api.ErrEscape, 2}, {`[a-\q]`, api.ErrEscape, 3}, {`[a-c\q]`, api.ErrEscape, 4}, {`[\x4]`, api.ErrEscape, 1}, {`[\xA0]`, api.ErrEscape, 1}, {`[\ ]`, api.ErrEscape, 1}, {"[\\\n]", api.ErrEscape, 1},
		{`[\`, api.ErrEscape, 1}, {`[a\`, api.ErrEscape, 2}, {`[a-\`, api.ErrEscape, 3}, {`[^\`, api.ErrEscape, 2}, {`[\x`, api.ErrEscape, 1}, {`[\x4`, api.ErrEscape, 1}, {`[z-\x4`, api.ErrEscape, 3}, {`[a-c\x4`, api.ErrEscape, 4},
		// Several things: the first from the left is told. Chars fall as soon as both were read, and not ahead of that.
		{`[-\q`, api.ErrClass, 1}, {`[\q-`, api.ErrEscape, 1}, {`[a-]\q`, api.ErrClass, 3}, {`[]\q`, api.ErrClass, 1}, {`[\q]]`, api.ErrEscape, 1}, {"[a\n\\", api.ErrClass, 2},
		{"[z-a", api.ErrOrder, 1}, {"[z-a-", api.ErrOrder, 1}, {"[z-a-]", api.ErrOrder, 1}, {`[z-a\q]`, api.ErrOrder, 1}, {"[z-a\n]", api.ErrOrder, 1}, {"[z-ay-b]", api.ErrOrder, 1}, {"[z-a[", api.ErrOrder, 1},
		{`[z-\q]`, api.ErrEscape, 3}, {"[z-]", api.ErrClass, 3}, {"[z-", api.ErrClass, 0}, {"[z-\n]", api.ErrClass, 3}, {"[z-^]", api.ErrClass, 3}, {`[z-\`, api.ErrEscape, 3}, {`[za-b-\q]`, api.ErrClass, 5}, {`[\qz-a]`, api.ErrEscape, 1}, {"[-z-a]", api.ErrClass, 1},
		{"[a-cb^", api.ErrClass, 5}, {"[a-b", api.ErrClass, 0},
	} {
		want := api.Bad{Kind: c.kind, At: c.at}
		holdRead(t, []byte(c.b), 0, api.Set{}, 0, want)
		// Behind other bytes all is told at its place; the end is, too, at the [.
		const ahead = "[a]\\x]"
		want.At += len(ahead)
		holdRead(t, []byte(ahead+c.b), len(ahead), api.Set{}, 0, want)
	}
}

// All short texts of bytes that say something, and some that say nothing, behind a [.
func TestP403AllShortTexts(t *testing.T) {
	all := escapes()
	texts := []string{"["}
	right := 0
	for range 6 {
		var longer []string
		for _, s := range texts {
			for _, c := range "[]^-\\\nanz" {
				longer = append(longer, s+string(c))
			}
		}
		for _, s := range longer {
			set, behind, bad := read(all, []byte(s), 0)
			holdRead(t, []byte(s), 0, set, behind, bad)
			if bad == (api.Bad{}) {
				right++
			}
		}
		if t.Failed() {
			return
		}
		texts = longer
	}
	if right < 1000 {
		t.Errorf("only %d texts are right", right)
	}
}

// Each byte at each place of a class.
func TestP403EveryByte(t *testing.T) {
	all := escapes()
	for _, form := range []string{"[%]", "[^%]", "[%-~]", "[!-%]", "[%-%]", "[ab%", "[a-c%]", "[a-c%-\\xff]", "[a%b]", "[\\%]", "[\\x4%]", "[\\x%4]", "[a-\\%]", "[%", "[a]%"} {
		for _, c := range every() {
			b := bytes.ReplaceAll([]byte(form), []byte("%"), []byte{c})
			set, behind, bad := read(all, b, 0)
			holdRead(t, b, 0, set, behind, bad)
		}
	}
}

// Each item of two chars, and which it says.
func TestP403EverySpan(t *testing.T) {
	for _, lo := range every() {
		for _, hi := range every() {
			text := []byte("[" + coding(lo) + "-" + coding(hi) + "]")
			if lo > hi {
				holdRead(t, text, 0, api.Set{}, 0, api.Bad{Kind: api.ErrOrder, At: 1})
				continue
			}
			holdRead(t, text, 0, setOf(func(i int) bool { return int(lo) <= i && i <= int(hi) }), len(text), api.Bad{})
		}
	}
}

func TestP403Long(t *testing.T) {
	n := 300000
	long := []byte("[^" + strings.Repeat("abx-z\\n", n) + "]]")
	holdRead(t, long, 0, sets.Not(sets.Of('a', 'b', 'x', 'y', 'z', 10)), len(long)-1, api.Bad{})
	holdRead(t, long[:len(long)-2], 0, api.Set{}, 0, api.Bad{Kind: api.ErrClass})
}

func TestP404Char(t *testing.T) {
	for _, c := range every() {
		if got, want := Char(c), char(c); got != want {
			t.Errorf("Char(%d) = %q, want %q", c, got, want)
		}
	}
	for c, want := range map[byte]string{
		'a': "a", '!': "!", '~': "~", ' ': `\x20`, 127: `\x7f`, 128: `\x80`, 255: `\xff`, 0: `\x00`, 8: `\x08`, 11: `\x0b`, 12: `\x0c`,
		9: `\t`, 10: `\n`, 13: `\r`, '\\': `\\`, '[': `\[`, ']': `\]`, '^': `\^`, '-': `\-`, '.': ".", '*': "*", '_': "_", '`': "`",
	} {
		if got := Char(c); got != want {
			t.Errorf("Char(%d) = %q, want %q", c, got, want)
		}
	}
}

func TestP404Show(t *testing.T) {
	of, span, not, union := sets.Of, sets.Span, sets.Not, sets.Union
	for _, c := range []struct {
		s    api.Set
		want string
	}{
		{api.Set{}, `[^\x00-\xff]`}, {sets.All(), `[\x00-\xff]`},
		{of('a'), "[a]"}, {of(0), `[\x00]`}, {of(255), `[\xff]`}, {of('^'), `[\^]`}, {of('-'), `[\-]`}, {of(10), `[\n]`},
		{of('a', 'b'), "[ab]"}, {span('a', 'c'), "[a-c]"}, {span('a', 'd'), "[a-d]"}, {of('a', 'b', 'x', 'y', 'z'), "[abx-z]"}, {of('a', 'c', 'e'), "[ace]"},
		{of(254, 255), `[\xfe\xff]`}, {span(253, 255), `[\xfd-\xff]`}, {of(0, 1), `[\x00\x01]`}, {span(0, 2), `[\x00-\x02]`}, {of(0, 255), `[\x00\xff]`},
		{span('[', '^'), `[\[-\^]`}, {of('[', '\\'), `[\[\\]`}, {span('+', '-'), `[+-\-]`}, {of(',', '-'), `[,\-]`}, {span(9, 13), `[\t-\r]`}, {of(9, 10), `[\t\n]`},
		// At half of all bytes.
		{span(0, 127), `[\x00-\x7f]`}, {span(0, 128), `[^\x81-\xff]`}, {span(128, 255), `[\x80-\xff]`}, {span(127, 255), `[^\x00-~]`}, {span(1, 128), `[\x01-\x80]`}, {span(1, 129), `[^\x00\x82-\xff]`},
		{not(of('a')), "[^a]"}, {not(of(0)), `[^\x00]`}, {not(of(255)), `[^\xff]`}, {not(of(10)), `[^\n]`}, {not(of('^')), `[^\^]`}, {not(union(of('a', 'b'), span('x', 'z'))), "[^abx-z]"},
	} {
		if got := Show(c.s); got != c.want {
			t.Errorf("Show(%x) = %q, want %q", c.s, got, c.want)
		}
	}
	for _, s := range samples() {
		if got, want := Show(s), show(s); got != want {
			t.Errorf("Show(%x) = %q, want %q", s, got, want)
		}
	}
}

func TestP405Back(t *testing.T) {
	for _, s := range samples() {
		text := Show(s)
		holdRead(t, []byte(text), 0, s, len(text), api.Bad{})
		holdRead(t, []byte("a"+text+"]-z]"), 1, s, 1+len(text), api.Bad{})
	}
}

// What Char writes is a char of a class, alone and beside any other one, and the Escape of it, where it is one.
func TestP405CharsBack(t *testing.T) {
	for _, c := range every() {
		text := Char(c)
		if text[0] == '\\' {
			holdEscape(t, []byte(text), 0, c, len(text), api.Bad{})
		}
		for _, d := range every() {
			both := "[" + text + Char(d) + "]"
			holdRead(t, []byte(both), 0, sets.Of(c, d), len(both), api.Bad{})
		}
	}
}

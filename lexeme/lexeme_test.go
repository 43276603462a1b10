package lexeme

import (
	"bytes"
	"math"
	"regexp"
	"slices"
	"strconv"
	"strings"
	"testing"

	"doublet/api"
	"doublet/class"
	"doublet/sets"
)

const (
	greatest = math.MaxInt
	least    = math.MinInt
)

var kinds = []api.LexKind{
	api.LexSet, api.LexOpen, api.LexClose, api.LexBar, api.LexStar, api.LexPlus, api.LexOpt, api.LexRep,
}

func every() []byte {
	b := make([]byte, 256)
	for i := range b {
		b[i] = byte(i)
	}
	return b
}

func set(s api.Set) api.Lexeme           { return api.Lexeme{Kind: api.LexSet, Set: s} }
func one(c byte) api.Lexeme              { return set(sets.Of(c)) }
func sign(kind api.LexKind) api.Lexeme   { return api.Lexeme{Kind: kind} }
func rep(lo, hi int) api.Lexeme          { return api.Lexeme{Kind: api.LexRep, Lo: lo, Hi: hi} }
func dotted() api.Lexeme                 { return set(sets.Less(sets.All(), sets.Of(10))) }
func row(l ...api.Lexeme) []api.Lexeme   { return l }
func at(x api.Lexeme, n int) api.Lexeme  { x.At = n; return x }
func bad(kind api.Errno, at int) api.Bad { return api.Bad{Kind: kind, At: at} }
func coding(c byte) string {
	return `\x` + string("0123456789abcdef"[c>>4]) + string("0123456789abcdef"[c&15])
}
func placeless(l []api.Lexeme) (bare []api.Lexeme) {
	for _, x := range l {
		bare = append(bare, at(x, 0))
	}
	return bare
}

// repForm: the text of a LexRep, at the front of others; its numbers may be too great, or fall.
var repForm = regexp.MustCompile(`^\{(0|[1-9][0-9]*)(?:(,)(0|[1-9][0-9]*)?)?\}`)

// bound: a number of at most 1000; false: it is above that.
func bound(digits string) (int, bool) {
	n, err := strconv.Atoi(digits)
	return n, err == nil && n <= 1000
}

// repAt: the LexRep at the front of a text, how long its text is, and what is wrong with it.
func repAt(b []byte) (api.Lexeme, int, api.Errno) {
	m := repForm.FindSubmatch(b)
	if m == nil {
		return api.Lexeme{}, 0, api.ErrRep
	}
	lo, ok := bound(string(m[1]))
	hi := lo
	if len(m[2]) > 0 {
		hi = -1
	}
	if len(m[3]) > 0 {
		n, right := bound(string(m[3]))
		hi, ok = n, ok && right
	}
	switch {
	case !ok:
		return api.Lexeme{}, 0, api.ErrRep
	case len(m[3]) > 0 && lo > hi:
		return api.Lexeme{}, 0, api.ErrOrder
	}
	return rep(lo, hi), len(m[0]), api.OK
}

// split: Split of a text that is not too long, by a form for each LexRep.
func split(b []byte) ([]api.Lexeme, api.Bad) {
	single := map[byte]api.Lexeme{
		'(': sign(2), ')': sign(3), '|': sign(4), '*': sign(5), '+': sign(6), '?': sign(7), '.': dotted(),
	}
	var l []api.Lexeme
	for place := 0; place < len(b); {
		c, x, behind, wrong := b[place], api.Lexeme{}, place+1, api.Bad{}
		switch {
		case c == '\\':
			var said byte
			said, behind, wrong = class.Escape(b, place)
			x = one(said)
		case c == '[':
			var s api.Set
			s, behind, wrong = class.Read(b, place)
			x = set(s)
		case c == '{':
			found, n, err := repAt(b[place:])
			if err != api.OK {
				wrong = bad(err, place)
			}
			x, behind = found, place+n
		case c == ']' || c == '}' || c == 10:
			wrong = bad(api.ErrForm, place)
		default:
			found, ok := single[c]
			if !ok {
				found = one(c)
			}
			x = found
		}
		if wrong != (api.Bad{}) {
			return nil, wrong
		}
		l = append(l, at(x, place))
		place = behind
	}
	return l, api.Bad{}
}

// holdSplit tells where Split is not what is wanted; and beside a Bad there are no lexemes.
func holdSplit(t *testing.T, b []byte, want []api.Lexeme, wrong api.Bad) {
	t.Helper()
	l, err := Split(b)
	if !slices.Equal(l, want) || err != wrong {
		t.Errorf("Split(%.60q) = %.400v, %v, want %.400v, %v", b, l, err, want, wrong)
	}
	if err != (api.Bad{}) && len(l) != 0 {
		t.Errorf("Split(%.60q) answers lexemes beside %v", b, err)
	}
}

func holdJoin(t *testing.T, l []api.Lexeme, want string, wrong api.Errno) {
	t.Helper()
	text, err := Join(l)
	if text != want || err != wrong {
		t.Errorf("Join(%.400v) = %.60q, %d, want %.60q, %d", l, text, err, want, wrong)
	}
}

func TestP501ArgumentsStay(t *testing.T) {
	for _, s := range []string{"", `(a|[b-d\x41]\n.){2,30}*`, "a{3", "a]", `[z-a]`, `\q`, "[a"} {
		room := append([]byte(s), "}]0,9)"...)
		kept := slices.Clone(room)
		Split(room[:len(s)])
		if !bytes.Equal(room, kept) {
			t.Errorf("Split made %q of %q", room, kept)
		}
	}
	for _, last := range []api.Lexeme{one('a'), sign(0), rep(3, 2)} {
		room := append(make([]api.Lexeme, 0, 8), dotted(), at(one('b'), 7), rep(3, 3), last)
		kept := slices.Clone(room[:8])
		Join(room)
		if !slices.Equal(room[:8], kept) {
			t.Errorf("Join made %v of %v", room[:8], kept)
		}
	}
}

// The room behind b is not b: what lies there must not be read.
func TestP501TheEndIsTheEnd(t *testing.T) {
	for _, s := range []string{"a{12,345}", "{12}", "{1,}", `\x41`, "[^a-c]", `(a|.)*\n{3}[x]+?`} {
		for n := range len(s) + 1 {
			want, wrong := split([]byte(s[:n]))
			holdSplit(t, []byte(s)[:n], want, wrong)
		}
	}
	holdSplit(t, []byte("a{12}")[:4], nil, bad(api.ErrRep, 1))
	holdSplit(t, []byte("a{12}")[:2], nil, bad(api.ErrRep, 1))
	holdSplit(t, []byte("a[b]")[:3], nil, bad(api.ErrClass, 1))
}

func TestP501NewMemory(t *testing.T) {
	b := []byte("ab[c-e]{2}")
	first, _ := Split(b)
	second, _ := Split(b)
	kept := slices.Clone(second)
	for i := range b {
		b[i] = '*'
	}
	clear(first)
	if !slices.Equal(second, kept) {
		t.Errorf("an answer became %v", second)
	}
	if again, _ := Split([]byte("ab[c-e]{2}")); !slices.Equal(again, kept) {
		t.Errorf("a later answer is %v", again)
	}
	l := row(one('a'), rep(2, -1))
	text, _ := Join(l)
	clear(l)
	if text != "a{2,}" {
		t.Errorf("a text became %q", text)
	}
}

// may: Right of a lexeme, of each kind by itself.
func may(x api.Lexeme) bool {
	if x.At < 0 {
		return false
	}
	switch x.Kind {
	case api.LexSet:
		return x.Lo == 0 && x.Hi == 0
	case api.LexOpen, api.LexClose, api.LexBar, api.LexStar, api.LexPlus, api.LexOpt:
		return x == api.Lexeme{Kind: x.Kind, At: x.At}
	case api.LexRep:
		return x.Set == api.Set{} && x.Lo >= 0 && x.Lo <= 1000 && (x.Hi == -1 || x.Hi >= x.Lo && x.Hi <= 1000)
	}
	return false
}

func TestP502Right(t *testing.T) {
	a := sets.Of('a')
	for _, c := range []struct {
		x    api.Lexeme
		want bool
	}{
		{api.Lexeme{}, false}, {sign(9), false}, {sign(-1), false}, {sign(least), false}, {sign(greatest), false},
		{sign(1), true}, {sign(2), true}, {sign(3), true}, {sign(4), true}, {sign(5), true}, {sign(6), true}, {sign(7), true}, {sign(8), true},
		{at(one('a'), 0), true}, {at(one('a'), 1), true}, {at(one('a'), greatest), true}, {at(one('a'), -1), false}, {at(one('a'), least), false},
		{at(rep(1, 2), -1), false}, {at(sign(2), -1), false}, {at(sign(7), 70000), true},
		{set(api.Set{}), true}, {set(a), true}, {set(sets.All()), true},
		{api.Lexeme{Kind: api.LexOpen, Set: a}, false}, {api.Lexeme{Kind: api.LexRep, Set: a, Lo: 1, Hi: 2}, false}, {api.Lexeme{Kind: api.LexStar, Set: api.Set{0, 0, 0, 1}}, false},
		{api.Lexeme{Kind: api.LexSet, Set: a, Lo: 1}, false}, {api.Lexeme{Kind: api.LexSet, Set: a, Hi: 1}, false}, {api.Lexeme{Kind: api.LexSet, Set: a, Hi: -1}, false},
		{api.Lexeme{Kind: api.LexPlus, Lo: 1, Hi: -1}, false}, {api.Lexeme{Kind: api.LexOpt, Hi: 1}, false},
		{rep(0, 0), true}, {rep(0, -1), true}, {rep(0, 1), true}, {rep(0, 1000), true}, {rep(0, 1001), false}, {rep(0, -2), false},
		{rep(3, 3), true}, {rep(3, 4), true}, {rep(3, 2), false}, {rep(3, 0), false}, {rep(3, -1), true}, {rep(1, 0), false},
		{rep(1000, 1000), true}, {rep(1000, -1), true}, {rep(1000, 999), false}, {rep(1000, 1001), false},
		{rep(1001, -1), false}, {rep(1001, 1001), false}, {rep(1001, 1002), false}, {rep(-1, -1), false}, {rep(-1, 0), false}, {rep(-1, 5), false}, {rep(-2, -2), false},
		{rep(least, least), false}, {rep(least, -1), false}, {rep(greatest, greatest), false}, {rep(greatest, -1), false}, {rep(0, greatest), false}, {rep(0, least), false},
	} {
		if got := Right(c.x); got != c.want {
			t.Errorf("Right(%v) = %t", c.x, got)
		}
	}
}

func TestP502RightAllTogether(t *testing.T) {
	numbers := []int{least, least + 1, -1001, -1000, -3, -2, -1, 0, 1, 2, 3, 500, 999, 1000, 1001, 1002, greatest - 1, greatest}
	for _, kind := range append([]api.LexKind{least, -8, -1, 0, 9, 10, greatest}, kinds...) {
		for _, place := range []int{least, -1, 0, 1, 65536, greatest} {
			for _, s := range []api.Set{{}, sets.Of(0), sets.Of(64), sets.Of(255), sets.All()} {
				for _, lo := range numbers {
					for _, hi := range numbers {
						x := api.Lexeme{Kind: kind, At: place, Set: s, Lo: lo, Hi: hi}
						if got := Right(x); got != may(x) {
							t.Fatalf("Right(%v) = %t", x, got)
						}
					}
				}
			}
		}
	}
}

func TestP503Signs(t *testing.T) {
	holdSplit(t, nil, nil, api.Bad{})
	holdSplit(t, []byte{}, nil, api.Bad{})
	holdSplit(t, []byte("()|*+?."), row(at(sign(2), 0), at(sign(3), 1), at(sign(4), 2), at(sign(5), 3), at(sign(6), 4), at(sign(7), 5), at(dotted(), 6)), api.Bad{})
	holdSplit(t, []byte("a{3}|."), row(at(one('a'), 0), at(rep(3, 3), 1), at(sign(4), 4), at(dotted(), 5)), api.Bad{})
	// These say something within a class, a LexRep or an escape alone.
	holdSplit(t, []byte("^-,0n\x00\xff\t\r "), row(at(one('^'), 0), at(one('-'), 1), at(one(','), 2), at(one('0'), 3), at(one('n'), 4), at(one(0), 5), at(one(255), 6), at(one(9), 7), at(one(13), 8), at(one(' '), 9)), api.Bad{})
}

func TestP503EveryByte(t *testing.T) {
	for _, c := range every() {
		x, wrong := one(c), api.Bad{}
		switch c {
		case '(', ')', '|', '*', '+', '?':
			x = sign(api.LexKind(2 + strings.IndexByte("()|*+?", c)))
		case '.':
			x = dotted()
		case '\\':
			wrong = api.Bad{Kind: api.ErrEscape}
		case '[':
			wrong = api.Bad{Kind: api.ErrClass}
		case '{':
			wrong = api.Bad{Kind: api.ErrRep}
		case ']', '}', '\n':
			wrong = api.Bad{Kind: api.ErrForm}
		}
		alone, behind := row(x), row(at(dotted(), 0), at(rep(1, -1), 1), at(x, 5))
		if wrong != (api.Bad{}) {
			alone, behind = nil, nil
		}
		holdSplit(t, []byte{c}, alone, wrong)
		if wrong != (api.Bad{}) {
			wrong.At = 5
		}
		holdSplit(t, []byte(".{1,}"+string([]byte{c})), behind, wrong)
		for _, form := range []string{"%a", "a%", "a%b", "%%", `\%`, `\%%`, `\x4%`, "[%", "[%]", "[a-%]", "{%", "{%}", "{1%", "{1%}", "{1%2}", "{1,%}", "{1,2%", "{1,2%}", "{12}%", "{%1}", "{,%}"} {
			b := bytes.ReplaceAll([]byte(form), []byte("%"), []byte{c})
			want, wrong := split(b)
			holdSplit(t, b, want, wrong)
		}
	}
}

func TestP503Long(t *testing.T) {
	full := []byte(strings.Repeat("a", api.MaxText))
	want := make([]api.Lexeme, api.MaxText)
	for i := range want {
		want[i] = at(one('a'), i)
	}
	holdSplit(t, full, want, api.Bad{})
	long := bad(api.ErrLong, 65536)
	holdSplit(t, append(slices.Clone(full), 'a'), nil, long)
	holdSplit(t, make([]byte, 3*api.MaxText), nil, long)
	// Ahead of all that is wrong within, at whatever place.
	for _, c := range []string{"]", "\n", "{", `\q`, "[a", "[z-a]"} {
		b := []byte(strings.Repeat(c, api.MaxText+1))[:api.MaxText+1]
		holdSplit(t, b, nil, long)
		holdSplit(t, append(slices.Clone(full), c...), nil, long)
		holdSplit(t, append([]byte(c), full...), nil, long)
	}
	// What is wrong at the end of a text that is not too long.
	full[api.MaxText-1] = '}'
	holdSplit(t, full, nil, bad(api.ErrForm, api.MaxText-1))
	copy(full[api.MaxText-3:], "[aa")
	holdSplit(t, full, nil, bad(api.ErrClass, api.MaxText-3))
	copy(full[api.MaxText-3:], "{11")
	holdSplit(t, full, nil, bad(api.ErrRep, api.MaxText-3))
}

// A class that fills a text, and as many small things as there can be.
func TestP503Full(t *testing.T) {
	holdSplit(t, []byte("["+strings.Repeat("ab", api.MaxText/2-1)+"]"), row(set(sets.Of('a', 'b'))), api.Bad{})
	holdSplit(t, []byte("["+strings.Repeat("a", api.MaxText-1)), nil, bad(api.ErrClass, 0))
	for _, c := range []struct {
		text string
		x    api.Lexeme
	}{{"{12}", rep(12, 12)}, {`\x7f`, one(127)}, {"[^a]", set(sets.Not(sets.Of('a')))}, {".", dotted()}, {")", sign(3)}} {
		n := api.MaxText / len(c.text)
		want := make([]api.Lexeme, n)
		for i := range want {
			want[i] = at(c.x, i*len(c.text))
		}
		holdSplit(t, []byte(strings.Repeat(c.text, n)), want, api.Bad{})
	}
	holdSplit(t, []byte("{"+strings.Repeat("1", api.MaxText-2)+"}"), nil, bad(api.ErrRep, 0))
	holdSplit(t, []byte("a{"+strings.Repeat("0", api.MaxText-3)+"}"), nil, bad(api.ErrRep, 1))
	holdSplit(t, []byte("a{"+strings.Repeat("1", api.MaxText-2)), nil, bad(api.ErrRep, 1))
}

func TestP503EscapesAndClasses(t *testing.T) {
	for _, c := range []struct {
		text string
		x    api.Lexeme
	}{
		{`\n`, one(10)}, {`\t`, one(9)}, {`\r`, one(13)}, {`\x00`, one(0)}, {`\x0a`, one(10)}, {`\xff`, one(255)}, {`\x61`, one('a')},
		{`\\`, one('\\')}, {`\(`, one('(')}, {`\)`, one(')')}, {`\[`, one('[')}, {`\]`, one(']')}, {`\{`, one('{')}, {`\}`, one('}')}, {`\|`, one('|')}, {`\*`, one('*')}, {`\+`, one('+')}, {`\?`, one('?')}, {`\.`, one('.')}, {`\-`, one('-')}, {`\^`, one('^')}, {`\,`, one(',')},
		{"[a]", one('a')}, {"[a-c]", set(sets.Span('a', 'c'))}, {"[^a]", set(sets.Not(sets.Of('a')))}, {`[^\n]`, dotted()}, {`[\x00-\xff]`, set(sets.All())}, {`[^\x00-\xff]`, set(api.Set{})},
		{"[.]", one('.')}, {"[(]", one('(')}, {"[*{}]", set(sets.Of('*', '{', '}'))}, {`[\]]`, one(']')}, {`[\[]`, one('[')}, {"[{2}]", set(sets.Of('{', '2', '}'))}, {"[|]", one('|')},
	} {
		n := len(c.text)
		holdSplit(t, []byte(c.text), row(c.x), api.Bad{})
		holdSplit(t, []byte(c.text+c.text), row(c.x, at(c.x, n)), api.Bad{})
		holdSplit(t, []byte("ab*"+c.text+"+6a"), row(at(one('a'), 0), at(one('b'), 1), at(sign(5), 2), at(c.x, 3), at(sign(6), 3+n), at(one('6'), 4+n), at(one('a'), 5+n)), api.Bad{})
		holdSplit(t, []byte("({1}"+c.text), row(at(sign(2), 0), at(rep(1, 1), 1), at(c.x, 4)), api.Bad{})
	}
}

func TestP503Wrong(t *testing.T) {
	for _, c := range []struct {
		text string
		kind api.Errno
		at   int
	}{
		// Escapes: at their place.
		{`\`, api.ErrEscape, 0}, {`\q`, api.ErrEscape, 0}, {`\x`, api.ErrEscape, 0}, {`\x4`, api.ErrEscape, 0}, {`\x4g`, api.ErrEscape, 0}, {`\xA0`, api.ErrEscape, 0}, {`\0`, api.ErrEscape, 0}, {`\ `, api.ErrEscape, 0}, {"\\\n", api.ErrEscape, 0}, {`\\\`, api.ErrEscape, 2}, {`a\`, api.ErrEscape, 1},
		// Classes: at the byte within, or at the [ where they end.
		{"[", api.ErrClass, 0}, {"[a", api.ErrClass, 0}, {"[^", api.ErrClass, 0}, {"[a-", api.ErrClass, 0}, {"[]", api.ErrClass, 1}, {"[^]", api.ErrClass, 2}, {"[a\n]", api.ErrClass, 2}, {"[a[]", api.ErrClass, 2}, {"[a-]", api.ErrClass, 3}, {"[ab-c-d]", api.ErrClass, 5},
		{"[z-a]", api.ErrOrder, 1}, {"[abz-a]", api.ErrOrder, 3}, {`[\q]`, api.ErrEscape, 1}, {`[ab\q]`, api.ErrEscape, 3}, {`[a-\`, api.ErrEscape, 3}, {`[\]`, api.ErrClass, 0}, {`[a]]`, api.ErrForm, 3},
		// {: at itself, whatever is wrong.
		{"{", api.ErrRep, 0}, {"{}", api.ErrRep, 0}, {"{,}", api.ErrRep, 0}, {"{,5}", api.ErrRep, 0}, {"{,", api.ErrRep, 0}, {"{5", api.ErrRep, 0}, {"{5,", api.ErrRep, 0}, {"{5,6", api.ErrRep, 0}, {"{5,6,", api.ErrRep, 0}, {"{5,6,7}", api.ErrRep, 0}, {"{5,,}", api.ErrRep, 0}, {"{5,,6}", api.ErrRep, 0},
		{"{ 5}", api.ErrRep, 0}, {"{5 }", api.ErrRep, 0}, {"{5, 6}", api.ErrRep, 0}, {"{5 ,6}", api.ErrRep, 0}, {"{5,6 }", api.ErrRep, 0}, {"{5,\n6}", api.ErrRep, 0}, {"{5;6}", api.ErrRep, 0}, {"{5-6}", api.ErrRep, 0}, {"{+5}", api.ErrRep, 0}, {"{-1}", api.ErrRep, 0}, {"{5,-1}", api.ErrRep, 0}, {"{a}", api.ErrRep, 0}, {"{5a}", api.ErrRep, 0}, {"{5,a}", api.ErrRep, 0}, {"{5,6a}", api.ErrRep, 0}, {"{0x5}", api.ErrRep, 0}, {"{5]", api.ErrRep, 0}, {"{5)", api.ErrRep, 0}, {"{{5}}", api.ErrRep, 0}, {"{5{", api.ErrRep, 0}, {"{/}", api.ErrRep, 0}, {"{:}", api.ErrRep, 0}, {`{\x35}`, api.ErrRep, 0},
		{"{00}", api.ErrRep, 0}, {"{01}", api.ErrRep, 0}, {"{05,6}", api.ErrRep, 0}, {"{5,06}", api.ErrRep, 0}, {"{0,00}", api.ErrRep, 0}, {"{00,}", api.ErrRep, 0},
		{"{1001}", api.ErrRep, 0}, {"{1001,}", api.ErrRep, 0}, {"{0,1001}", api.ErrRep, 0}, {"{1001,1001}", api.ErrRep, 0}, {"{1001,5}", api.ErrRep, 0}, {"{5,1001}", api.ErrRep, 0}, {"{10000}", api.ErrRep, 0}, {"{18446744073709551617}", api.ErrRep, 0}, {"{1,18446744073709551618}", api.ErrRep, 0}, {"{9223372036854775807}", api.ErrRep, 0}, {"{0000000000000000000000001}", api.ErrRep, 0},
		{"{5,4}", api.ErrOrder, 0}, {"{1,0}", api.ErrOrder, 0}, {"{1000,999}", api.ErrOrder, 0}, {"{10,9}", api.ErrOrder, 0}, {"{1000,0}", api.ErrOrder, 0},
		// Numbers that fall are told where all the rest is right alone.
		{"{5,4", api.ErrRep, 0}, {"{5,4a}", api.ErrRep, 0}, {"{5,04}", api.ErrRep, 0}, {"{5,4,}", api.ErrRep, 0},
		// Bytes that begin nothing.
		{"]", api.ErrForm, 0}, {"}", api.ErrForm, 0}, {"\n", api.ErrForm, 0}, {"a]", api.ErrForm, 1}, {"a}", api.ErrForm, 1}, {"a\n", api.ErrForm, 1}, {"{1}}", api.ErrForm, 3}, {"[a]]", api.ErrForm, 3}, {"a{2}b\n", api.ErrForm, 5}, {"\r\n", api.ErrForm, 1},
		// Several things: the first from the left is told.
		{`]\`, api.ErrForm, 0}, {`\]]`, api.ErrForm, 2}, {"[a{5", api.ErrClass, 0}, {"{5[a", api.ErrRep, 0}, {"[z-a]{5,4}", api.ErrOrder, 1}, {"{5,4}[z-a]", api.ErrOrder, 0}, {"}{", api.ErrForm, 0}, {"{}", api.ErrRep, 0}, {`\q]`, api.ErrEscape, 0}, {`{1}\q]`, api.ErrEscape, 3}, {`{\q}`, api.ErrRep, 0}, {`a[\q]]`, api.ErrEscape, 2}, {"\n{5,4}", api.ErrForm, 0}, {"{5,4}\n", api.ErrOrder, 0}, {"{1,2}{3,2}{", api.ErrOrder, 5}, {"a{2}{3", api.ErrRep, 4},
	} {
		holdSplit(t, []byte(c.text), nil, bad(c.kind, c.at))
		// Behind what is right all is told at its place.
		const ahead = `(a|[b-d]{2,3}\n)`
		holdSplit(t, []byte(ahead+c.text), nil, bad(c.kind, len(ahead)+c.at))
	}
}

func TestP503Numbers(t *testing.T) {
	numbers := []int{0, 1, 2, 9, 10, 11, 99, 100, 999, 1000, 1001, 1010, 9999, 10000, greatest}
	for _, n := range numbers {
		digits := strconv.Itoa(n)
		x, open, wrong := row(at(one('a'), 0), at(rep(n, n), 1)), row(at(one('a'), 0), at(rep(n, -1), 1)), api.Bad{}
		if n > 1000 {
			x, open, wrong = nil, nil, bad(api.ErrRep, 1)
		}
		holdSplit(t, []byte("a{"+digits+"}"), x, wrong)
		holdSplit(t, []byte("a{"+digits+",}"), open, wrong)
		for _, m := range numbers {
			want, wrong := row(at(one('a'), 0), at(rep(n, m), 1)), api.Bad{}
			switch {
			case n > 1000 || m > 1000:
				want, wrong = nil, bad(api.ErrRep, 1)
			case n > m:
				want, wrong = nil, bad(api.ErrOrder, 1)
			}
			holdSplit(t, []byte("a{"+digits+","+strconv.Itoa(m)+"}"), want, wrong)
		}
	}
	for n := range 1001 {
		digits := strconv.Itoa(n)
		holdSplit(t, []byte("{"+digits+"}"), row(rep(n, n)), api.Bad{})
		holdSplit(t, []byte("{"+digits+","+digits+"}"), row(rep(n, n)), api.Bad{})
		holdSplit(t, []byte("{"+digits+",}*"), row(rep(n, -1), at(sign(5), len(digits)+3)), api.Bad{})
	}
}

// holdAllTexts holds Split of all texts of some bytes, up to a length, behind a front, against the model; enough of them have to be right.
func holdAllTexts(t *testing.T, front, letters string, longest, enough int) {
	t.Helper()
	texts := []string{front}
	right := 0
	for range longest {
		var longer []string
		for _, s := range texts {
			for _, c := range letters {
				longer = append(longer, s+string(c))
			}
		}
		for _, s := range longer {
			want, wrong := split([]byte(s))
			holdSplit(t, []byte(s), want, wrong)
			if wrong == (api.Bad{}) {
				right++
			}
		}
		if t.Failed() {
			return
		}
		texts = longer
	}
	if right < enough {
		t.Errorf("only %d texts are right", right)
	}
}

func TestP503AllShortTexts(t *testing.T) {
	holdAllTexts(t, "", "a(.{},01[]\\\n", 5, 1000)
}

func TestP503AllShortReps(t *testing.T) {
	holdAllTexts(t, "{", "012,} ", 7, 200)
}

// literal: what Literal writes, written out.
func literal(c byte) string {
	switch {
	case c == 10:
		return `\n`
	case c == 9:
		return `\t`
	case c == 13:
		return `\r`
	case c < 33 || c > 126:
		return coding(c)
	case strings.Contains(`\()[]{}|*+?.`, string(rune(c))):
		return `\` + string(rune(c))
	}
	return string(rune(c))
}

func TestP504Literal(t *testing.T) {
	for _, c := range every() {
		if got, want := Literal(c), literal(c); got != want {
			t.Errorf("Literal(%d) = %q, want %q", c, got, want)
		}
	}
	for c, want := range map[byte]string{
		'a': "a", 'n': "n", '0': "0", '^': "^", '-': "-", '/': "/", ',': ",", '"': `"`, '$': "$", '!': "!", '~': "~", ':': ":", '#': "#",
		0: `\x00`, 8: `\x08`, 9: `\t`, 10: `\n`, 11: `\x0b`, 12: `\x0c`, 13: `\r`, 32: `\x20`, 127: `\x7f`, 128: `\x80`, 255: `\xff`,
		'\\': `\\`, '(': `\(`, ')': `\)`, '[': `\[`, ']': `\]`, '{': `\{`, '}': `\}`, '|': `\|`, '*': `\*`, '+': `\+`, '?': `\?`, '.': `\.`,
	} {
		if got := Literal(c); got != want {
			t.Errorf("Literal(%d) = %q, want %q", c, got, want)
		}
	}
}

func TestP504Join(t *testing.T) {
	for _, c := range []struct {
		x    api.Lexeme
		want string
	}{
		{sign(2), "("}, {sign(3), ")"}, {sign(4), "|"}, {sign(5), "*"}, {sign(6), "+"}, {sign(7), "?"},
		{one('a'), "a"}, {one('.'), `\.`}, {one('['), `\[`}, {one('^'), "^"}, {one('-'), "-"}, {one(10), `\n`}, {one(9), `\t`}, {one(13), `\r`}, {one(0), `\x00`}, {one(255), `\xff`}, {one('*'), `\*`}, {one('('), `\(`}, {one('}'), `\}`}, {one(' '), `\x20`},
		{dotted(), "."}, {set(sets.All()), `[\x00-\xff]`}, {set(api.Set{}), `[^\x00-\xff]`},
		{set(sets.Not(sets.Of(9))), `[^\t]`}, {set(sets.Not(sets.Of(11))), `[^\x0b]`}, {set(sets.Not(sets.Of(10, 11))), `[^\n\x0b]`}, {set(sets.Not(sets.Of(10, 13))), `[^\n\r]`},
		{set(sets.Of('a', 'b')), "[ab]"}, {set(sets.Of('a', '.')), "[.a]"}, {set(sets.Span('a', 'c')), "[a-c]"}, {set(sets.Of('^', '-', ']')), `[\-\]\^]`}, {set(sets.Of('(', ')', '*')), "[(-*]"},
		{rep(0, 0), "{0}"}, {rep(3, 3), "{3}"}, {rep(1000, 1000), "{1000}"}, {rep(0, -1), "{0,}"}, {rep(1, -1), "{1,}"}, {rep(1000, -1), "{1000,}"}, {rep(0, 1), "{0,1}"}, {rep(2, 30), "{2,30}"}, {rep(0, 1000), "{0,1000}"}, {rep(999, 1000), "{999,1000}"},
	} {
		holdJoin(t, row(c.x), c.want, api.OK)
		holdJoin(t, row(at(c.x, greatest), at(c.x, 0)), c.want+c.want, api.OK)
		holdJoin(t, row(one('a'), c.x, sign(5)), "a"+c.want+"*", api.OK)
	}
	for _, c := range every() {
		holdJoin(t, row(one(c)), literal(c), api.OK)
		want := class.Show(sets.Not(sets.Of(c)))
		if c == 10 {
			want = "."
		}
		holdJoin(t, row(set(sets.Not(sets.Of(c)))), want, api.OK)
	}
	holdJoin(t, nil, "", api.OK)
	holdJoin(t, row(), "", api.OK)
	// Neither the order nor the places have to make sense.
	holdJoin(t, row(at(sign(5), 3), at(sign(3), 3), at(sign(4), 0), at(rep(3, 3), 9), at(sign(2), 1)), "*)|{3}(", api.OK)
	holdJoin(t, row(sign(2), one('a'), sign(4), one(10), sign(3), sign(5), set(sets.Span('b', 'd')), rep(2, -1), sign(6), sign(7), dotted()), `(a|\n)*[b-d]{2,}+?.`, api.OK)
}

func TestP504Wrong(t *testing.T) {
	wrong := []api.Lexeme{
		{}, sign(9), sign(-1), sign(least), sign(greatest), at(one('a'), -1), at(sign(2), least),
		{Kind: api.LexSet, Set: sets.Of('a'), Lo: 1}, {Kind: api.LexSet, Set: sets.Of('a'), Hi: -1},
		{Kind: api.LexOpen, Set: sets.Of('a')}, {Kind: api.LexStar, Lo: 1}, {Kind: api.LexPlus, Hi: -1}, {Kind: api.LexRep, Set: sets.Of('a'), Lo: 1, Hi: 2},
		rep(-1, -1), rep(-1, 3), rep(0, -2), rep(3, 2), rep(3, 1001), rep(1001, 1001), rep(1001, -1), rep(least, greatest),
	}
	for _, x := range wrong {
		holdJoin(t, row(x), "", api.ErrKind)
		holdJoin(t, row(x, one('a'), dotted()), "", api.ErrKind)
		holdJoin(t, row(one('a'), x, dotted()), "", api.ErrKind)
		holdJoin(t, row(one('a'), dotted(), x), "", api.ErrKind)
		holdJoin(t, row(x, x), "", api.ErrKind)
	}
}

func TestP504Long(t *testing.T) {
	n := api.MaxText + 5
	l := make([]api.Lexeme, n)
	for i := range l {
		l[i] = at(one('('), i)
	}
	holdJoin(t, l, strings.Repeat(`\(`, n), api.OK)
}

// samples: each kind, sets of all sorts, LexReps with all sorts of bounds.
func samples() []api.Lexeme {
	l := row(
		set(api.Set{}), set(sets.All()), dotted(), set(sets.Of('a', 'b')), set(sets.Span('0', '9')), set(sets.Not(sets.Of('^'))), set(sets.Of(',', '}')),
		one('a'), one('n'), one('x'), one('0'), one('4'), one(','), one('}'), one('{'), one('\\'), one('['), one(']'), one('^'), one('-'), one('.'), one(10), one(0), one(255),
		rep(0, 0), rep(0, -1), rep(0, 1), rep(1, 1), rep(7, 7), rep(2, 13), rep(999, 1000), rep(1000, 1000), rep(1000, -1), rep(0, 1000),
	)
	for _, kind := range kinds[1:7] {
		l = append(l, sign(kind))
	}
	return l
}

// holdBack: Split of Join are the lexemes, but for their places, which rise; each stands where its text does.
func holdBack(t *testing.T, l []api.Lexeme) {
	t.Helper()
	text, err := Join(l)
	back, wrong := Split([]byte(text))
	if err != api.OK || wrong != (api.Bad{}) || !slices.Equal(placeless(back), placeless(l)) {
		t.Fatalf("of %v comes %q, %d, and back %v, %v", l, text, err, back, wrong)
	}
	place := 0
	for i, x := range back {
		if x.At != place {
			t.Fatalf("lexeme %d of %q is told at %d, and stands at %d", i, text, x.At, place)
		}
		own, _ := Join(row(x))
		place += len(own)
	}
	if place != len(text) {
		t.Fatalf("the lexemes of %q end at %d", text, place)
	}
}

func TestP505Back(t *testing.T) {
	l := samples()
	holdBack(t, nil)
	holdBack(t, l)
	for _, a := range l {
		holdBack(t, row(a))
		for _, b := range l {
			holdBack(t, row(a, b))
			for _, c := range l {
				holdBack(t, row(a, b, c))
			}
		}
	}
	for _, c := range every() {
		holdBack(t, row(one(c)))
		holdBack(t, row(set(sets.Not(sets.Of(c))), one(c), one(c), rep(int(c), 2*int(c))))
		for _, d := range every() {
			holdBack(t, row(one(c), one(d)))
		}
	}
}

func TestP505LongRowsBack(t *testing.T) {
	l := samples()
	// A row of numbers that is always the same.
	x := uint64(88172645463325252)
	next := func() uint64 {
		x ^= x << 13
		x ^= x >> 7
		x ^= x << 17
		return x
	}
	for range 2000 {
		var some []api.Lexeme
		for range next() % 60 {
			switch next() % 4 {
			case 0:
				some = append(some, set(api.Set{next(), next() & next(), next() | next(), next()}))
			case 1:
				lo := int(next() % 1001)
				some = append(some, rep(lo, lo+int(next()%uint64(1001-lo))))
			default:
				some = append(some, l[next()%uint64(len(l))])
			}
		}
		holdBack(t, some)
	}
}

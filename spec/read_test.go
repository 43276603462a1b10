package spec

import (
	"slices"
	"strconv"
	"strings"
	"testing"

	"doublet/api"
	"doublet/sample"
	"doublet/tree"
)

// A flaw is a line that is wrong where no name of the lines ahead is r; kind and at: as what, and where in the line.
type flaw struct {
	line string
	kind api.Errno
	at   int
}

// flaws: a line for each way to be wrong, but ErrMany and ErrTwice.
func flaws() []flaw {
	long := strings.Repeat("q", 32)
	l := []flaw{
		// The first byte can't stand there, whatever is behind it.
		{"1", api.ErrName, 0}, {"1a:b", api.ErrName, 0}, {"9:(", api.ErrName, 0}, {":", api.ErrName, 0}, {":b", api.ErrName, 0}, {"::", api.ErrName, 0}, {" ", api.ErrName, 0}, {" r:b", api.ErrName, 0}, {"-", api.ErrName, 0}, {"\xff", api.ErrName, 0}, {"\x00:", api.ErrName, 0}, {"\r", api.ErrName, 0}, {"é:a", api.ErrName, 0}, {"0" + long + long + ":[", api.ErrName, 0},
		// There stands one that could stand in a name, behind as many as may be.
		{long + "q", api.ErrName, 32}, {long + "0", api.ErrName, 32}, {long + "_:", api.ErrName, 32}, {long + "Z:(", api.ErrName, 32}, {long + "a:b", api.ErrName, 32}, {long + "q-", api.ErrName, 32}, {strings.Repeat("r9_Z", 5000), api.ErrName, 32}, {strings.Repeat("r", 33) + " :", api.ErrName, 32}, {strings.Repeat("_", 40) + ":)", api.ErrName, 32},
		// No colon behind a name.
		{"r", api.ErrColon, 1}, {"r9", api.ErrColon, 2}, {"r b:(", api.ErrColon, 1}, {"r-", api.ErrColon, 1}, {"r\x00:", api.ErrColon, 1}, {"r\xff", api.ErrColon, 1}, {"r;a", api.ErrColon, 1}, {"rr=[", api.ErrColon, 2}, {"r#", api.ErrColon, 1}, {"rest\r", api.ErrColon, 4}, {"ré:a", api.ErrColon, 1},
		{long, api.ErrColon, 32}, {long + "!", api.ErrColon, 32}, {long + " :b", api.ErrColon, 32}, {long + "é", api.ErrColon, 32}, {long[1:], api.ErrColon, 31}, {long[1:] + "!" + long, api.ErrColon, 31},
	}
	for _, x := range []flaw{
		{"[z-a]", api.ErrOrder, 1}, {"a{3,2}", api.ErrOrder, 1}, {")", api.ErrClose, 0}, {"a|b)*", api.ErrClose, 3}, {"(", api.ErrOpen, 0}, {"a((b)", api.ErrOpen, 1}, {"*", api.ErrNone, 0}, {"a|+", api.ErrNone, 2}, {"a(?)", api.ErrNone, 2}, {"{2}", api.ErrNone, 0},
		{"]", api.ErrForm, 0}, {"a}", api.ErrForm, 1}, {"a{", api.ErrRep, 1}, {"ab{1001}", api.ErrRep, 2}, {`\q`, api.ErrEscape, 0}, {`a\`, api.ErrEscape, 1}, {`[a\x4]`, api.ErrEscape, 2}, {"[]", api.ErrClass, 1}, {"ab[c", api.ErrClass, 2}, {"a:b*#|(:", api.ErrOpen, 6}, {" )", api.ErrClose, 1},
		{strings.Repeat("(", 65), api.ErrDeep, 64}, {strings.Repeat("a", 1025), api.ErrLong, 1024}, {strings.Repeat("ab*", 342), api.ErrLong, 1024}, {"*" + strings.Repeat("(", 65), api.ErrNone, 0}, {"*[z-a]", api.ErrOrder, 2},
	} {
		for _, name := range []string{"r", "Rr_9", long} {
			l = append(l, flaw{name + ":" + x.line, x.kind, len(name) + 1 + x.at})
		}
	}
	return l
}

// fronts: right lines that may stand ahead of others, without a rule named r.
func fronts() []string {
	return []string{"", "\n", "#x\n", "a:b\n", "\n\n#r:\n##\n", "a:b\n#\nb:(a|b)*\n\n", "R:r\nrr:\n\n", numberedText(63), "#" + strings.Repeat("x", 3000) + "\nq:\n"}
}

// The first fault is told, at its place in the whole text, whatever is behind it.
func TestP904FirstMiddleLast(t *testing.T) {
	for _, x := range flaws() {
		for _, front := range fronts() {
			for _, behind := range []string{"", "\n", "\nz:b", "\nz:b\n", "\n\n#\nz:b\ny:\n"} {
				holdWrong(t, front+x.line+behind, x.kind, len(front)+x.at)
			}
		}
	}
}

// Two lines that are wrong: the first one is told, also where the second one's error is named ahead of its.
func TestP904TwoLines(t *testing.T) {
	for _, x := range flaws() {
		for _, y := range flaws() {
			hold(t, x.line+"\n"+y.line, nil, bad(x.kind, x.at))
			hold(t, "a:b\n"+x.line+"\nb:\n\n"+y.line+"\n", nil, bad(x.kind, 4+x.at))
		}
	}
}

func TestP904Name(t *testing.T) {
	for n := range 256 {
		s := string([]byte{byte(n)})
		if n == 10 {
			continue
		}
		// At the first byte.
		if !strings.Contains(letters+"#", s) {
			for _, more := range []string{"", ":", "a:b", "a", strings.Repeat("a", 40), ":*"} {
				holdWrong(t, s+more, api.ErrName, 0)
				holdWrong(t, "a:b\n\n"+s+more+"\nb:", api.ErrName, 5)
			}
		}
		// Behind as many bytes as there may be, and behind fewer.
		for _, k := range []int{1, 2, 31, 32} {
			line := strings.Repeat("n", k) + s
			switch {
			case strings.Contains(letters+digits, s) && k == 32:
				holdWrong(t, line, api.ErrName, 32)
				holdWrong(t, "a:b\n"+line+":b\nb:", api.ErrName, 36)
			case strings.Contains(letters+digits, s):
				holdWrong(t, line, api.ErrColon, k+1)
				holdSays(t, line+":a", named(line, a()))
			case s == ":":
				holdSays(t, line, named(line[:k], e()))
				holdSays(t, line+"a", named(line[:k], a()))
			default:
				holdWrong(t, line, api.ErrColon, k)
				holdWrong(t, "a:b\n"+line+":b\nb:", api.ErrColon, 4+k)
			}
		}
	}
	for k := 1; k <= 100; k++ {
		line := strings.Repeat("w", k)
		if k <= 32 {
			holdSays(t, line+":a", named(line, a()))
			holdWrong(t, line, api.ErrColon, k)
			holdWrong(t, line+"\n", api.ErrColon, k)
			holdWrong(t, line+"!:a", api.ErrColon, k)
		} else {
			holdWrong(t, line+":a", api.ErrName, 32)
			holdWrong(t, line, api.ErrName, 32)
			holdWrong(t, line+"\n", api.ErrName, 32)
			holdWrong(t, line+"!:a", api.ErrName, 32)
		}
	}
}

func TestP904Colon(t *testing.T) {
	holdWrong(t, "ab", api.ErrColon, 2)
	holdWrong(t, "ab\n", api.ErrColon, 2)
	holdWrong(t, "ab\n:c", api.ErrColon, 2)
	holdWrong(t, "ab\ncd:e", api.ErrColon, 2)
	holdWrong(t, "x:a\nab", api.ErrColon, 6)
	holdWrong(t, "x:a\nab\n", api.ErrColon, 6)
	holdWrong(t, "x:a\nab\n\ny:", api.ErrColon, 6)
	holdWrong(t, "a b:c", api.ErrColon, 1)
	holdWrong(t, "a-b:c", api.ErrColon, 1)
	// Also where the name is there: what is behind it is told first.
	holdWrong(t, "x:a\nx", api.ErrColon, 5)
	holdWrong(t, "x:a\nx b:(", api.ErrColon, 5)
	holdWrong(t, "x:a\nx\nx:b", api.ErrColon, 5)
}

func TestP904Twice(t *testing.T) {
	long := strings.Repeat("k", 32)
	for _, name := range []string{"x", "_", "X9", long} {
		for _, front := range []string{name + ":a\n", "\n#\n" + name + ":\n\n", "w:\n" + name + ":(a|b)*\ny:\n", name + ":" + name + ":\n"} {
			// The expression behind it is right, or wrong.
			for _, more := range []string{"", "a", "b*", ")", "(", "*", "[z-a]", "]", `\q`, strings.Repeat("(", 65), strings.Repeat("a", 1025)} {
				for _, behind := range []string{"", "\n", "\nz:a", "\n9", "\nz:*"} {
					holdWrong(t, front+name+":"+more+behind, api.ErrTwice, len(front))
					holdWrong(t, front+"v:b\n\n"+name+":"+more+behind, api.ErrTwice, len(front)+5)
				}
			}
			// A name is another one, if it has one byte more, or less, or another one.
			holdModel(t, front+name[1:]+"z:a\n")
			holdModel(t, front+strings.ToLower(name)+":a\n"+strings.ToUpper(name)+":a\n")
		}
	}
	holdSays(t, "x:a\nX:a\nxx:a\nx_:a", named("x", a()), named("X", a()), named("xx", a()), named("x_", a()))
	// Behind # there is no name, and a line that is wrong is told ahead of the one that has its name again.
	holdSays(t, "#x:a\nx:a\n#x:b", named("x", a()))
	holdWrong(t, "x:(\nx:a", api.ErrOpen, 2)
	holdWrong(t, "x:a\nx:b\nx:(", api.ErrTwice, 4)
	// The name of the first of many lines, and of the last one.
	for _, n := range []int{0, 31, 62} {
		holdWrong(t, numberedText(63)+"r"+strconv.Itoa(n)+":b\n", api.ErrTwice, len(numberedText(63)))
	}
}

func TestP904Many(t *testing.T) {
	full := numberedText(64)
	holdSays(t, full, numbered(64)...)
	holdSays(t, strings.TrimSuffix(full, "\n"), numbered(64)...)
	// Lines that say nothing are not too much, wherever they stand.
	for _, silent := range []string{"\n", "#\n", "#x:a\n", "\n\n\n#(\n\n", "#"} {
		holdSays(t, full+silent, numbered(64)...)
		holdSays(t, full+strings.TrimSuffix(silent, "\n"), numbered(64)...)
		holdSays(t, strings.TrimSuffix(silent, "\n")+"\n"+full, numbered(64)...)
		holdSays(t, strings.ReplaceAll(full, "\n", "\n"+strings.TrimSuffix(silent, "\n")+"\n"), numbered(64)...)
	}
	// One more, whatever it is: right, wrong, or with a name that is there.
	more := []string{"x:a", "x:", "x", "x y:", "9", ":", " ", " #", "\r", "r0:a", "r63:b", "r0:(", "x:(", "x:*", strings.Repeat("x", 33), strings.Repeat("x", 32), "x:" + strings.Repeat("a", 1025)}
	for _, x := range flaws() {
		more = append(more, x.line)
	}
	for _, line := range more {
		for _, between := range []string{"", "\n", "#\n\n#x:\n"} {
			for _, behind := range []string{"", "\n", "\ny:b", "\n9\n", "\n#"} {
				holdWrong(t, full+between+line+behind, api.ErrMany, len(full+between))
			}
		}
	}
	for _, n := range []int{65, 66, 128, 1000} {
		holdWrong(t, numberedText(n), api.ErrMany, len(full))
	}
	// What is wrong with a line ahead is told first.
	for _, x := range flaws() {
		ahead := numberedText(63)
		holdWrong(t, ahead+x.line+"\n"+full, x.kind, len(ahead)+x.at)
		holdWrong(t, x.line+"\n"+full, x.kind, x.at)
	}
	holdWrong(t, numberedText(63)+"r5:a\nx:a\ny:a", api.ErrTwice, len(numberedText(63)))
}

func TestP904Long(t *testing.T) {
	// Each of these is lengthened by what says nothing, as far as the limit, and past it.
	for _, text := range []string{"", "x:a\n", "x:a\ny:b\n", "9\n", "x:(\n", "x:a\nx:b\n", "x\n", numberedText(65), "\xff\n", "x:" + strings.Repeat("a", 1025) + "\n"} {
		for _, n := range []int{65534, 65535, 65536, 65537, 65538, 70000, 1 << 20} {
			for _, filled := range []string{text + strings.Repeat("\n", n-len(text)), text + "#" + strings.Repeat("x", n-len(text)-1), "#" + strings.Repeat("a", n-len(text)-2) + "\n" + text} {
				if n > 65536 {
					holdWrong(t, filled, api.ErrLong, 65536)
				} else {
					holdModel(t, filled)
				}
			}
		}
	}
	// What is wrong stands at the last byte, or behind it.
	for n := 65530; n <= 65540; n++ {
		for _, x := range []flaw{{"x", api.ErrColon, 1}, {"x-", api.ErrColon, 1}, {"9", api.ErrName, 0}, {"x:*", api.ErrNone, 2}, {"x:a)", api.ErrClose, 3}, {"x:(", api.ErrOpen, 2}} {
			front := "#" + strings.Repeat("-", n-2-len(x.line)) + "\n"
			if n > 65536 {
				holdWrong(t, front+x.line, api.ErrLong, 65536)
			} else {
				holdWrong(t, front+x.line, x.kind, len(front)+x.at)
			}
		}
	}
	// Rules as long as may be.
	class := "[" + strings.Repeat("a", 65532) + "]"
	holdSays(t, "x:"+class, named("x", a()))
	holdWrong(t, "x:"+class+"\n", api.ErrLong, 65536)
	holdWrong(t, "xy:"+class, api.ErrLong, 65536)
	holdSays(t, "#\n\ny:b\nx:"+class[:65525]+"]", named("y", b()), named("x", a()))
	holdWrong(t, strings.Repeat("x", 65536), api.ErrName, 32)
	holdWrong(t, strings.Repeat("x", 65537), api.ErrLong, 65536)
	holdWrong(t, "x:"+strings.Repeat("a", 65534), api.ErrLong, 1026)
	holdWrong(t, string(make([]byte, 65537)), api.ErrLong, 65536)
	holdWrong(t, string(make([]byte, 65536)), api.ErrName, 0)
}

// Expressions as long, and as deep, as may be.
func TestP904FullExpressions(t *testing.T) {
	full := strings.Repeat("a", 1024)
	deep := strings.Repeat("(", 64) + "a|b" + strings.Repeat(")", 64)
	long := a()
	for range 341 {
		long = of(6, of(8, of(7, long)))
	}
	want := []api.Rule{named("x", tree.Word([]byte(full)...)), named("y", tree.Alt(a(), b())), named("z", long)}
	holdSays(t, "x:"+full+"\ny:"+deep, want[:2]...)
	holdSays(t, "y:"+deep+"\nz:a"+strings.Repeat("+?*", 341)+"\n", want[1:]...)
	holdWrong(t, "y:"+deep+"\nx:"+full+"a", api.ErrLong, 2+len(deep)+1+2+1024)
	holdWrong(t, "x:"+full+"\ny:("+deep+")", api.ErrDeep, 2+1024+1+2+64)
	// All of them, as often as there is room.
	all := ""
	for i := range 60 {
		all += called(32, i) + ":" + full + "\n"
	}
	l, wrong := Read([]byte(all))
	if len(l) != 60 || wrong != (api.Bad{}) || !tree.Same(l[59].Body, want[0].Body) || l[59].Name != called(32, 59) {
		t.Errorf("Read of %d long rules has %d, %v", 60, len(l), wrong)
	}
}

// All texts of up to so many bytes of some that mean something.
func TestP904AllShortTexts(t *testing.T) {
	met := map[api.Errno]int{}
	for _, some := range []string{"a1:\n#*", "ab:\n(", "_:\n|"} {
		texts := []string{""}
		for len(texts[0]) < 7 {
			var longer []string
			for _, text := range texts {
				for _, x := range some {
					longer = append(longer, text+string(x))
				}
			}
			for _, text := range longer {
				met[holdModel(t, text).Kind]++
			}
			if t.Failed() {
				return
			}
			texts = longer
		}
	}
	for _, kind := range []api.Errno{api.OK, api.ErrName, api.ErrColon, api.ErrTwice, api.ErrNone, api.ErrOpen} {
		if met[kind] < 100 {
			t.Errorf("only %d texts are told %d", met[kind], kind)
		}
	}
}

// Texts of right lines, with a byte left out, put in, or made another one; and texts of any bytes.
func TestP904RandomTexts(t *testing.T) {
	next := sample.Chances()
	met := map[api.Errno]int{}
	for i := range 3000 {
		many := 1 + next(12)
		if i%50 == 0 {
			many = 60 + next(10)
		}
		l := someLines(t, next, 0, many)
		text := strings.Join(l, "\n") + "\n"[:next(2)]
		met[holdModel(t, text).Kind]++
		twice := slices.Insert(slices.Clone(l), next(len(l)+1), l[next(len(l))])
		met[holdModel(t, strings.Join(twice, "\n")).Kind]++
		for range 4 {
			at := next(len(text))
			s := []string{"\n", ":", "#", " ", "(", ")", "*", "a", "9", "]", "\x00", "\xff", string([]byte{byte(next(256))})}[next(13)]
			met[holdModel(t, text[:at]+text[at+1:]).Kind]++
			met[holdModel(t, text[:at]+s+text[at:]).Kind]++
			met[holdModel(t, text[:at]+s+text[at+1:]).Kind]++
		}
		noise := make([]byte, next(60))
		for i := range noise {
			noise[i] = byte(next(256))
		}
		met[holdModel(t, string(noise)).Kind]++
		if t.Failed() {
			return
		}
	}
	for kind, enough := range map[api.Errno]int{api.OK: 3000, api.ErrName: 1000, api.ErrColon: 1000, api.ErrTwice: 1000, api.ErrMany: 100, api.ErrOpen: 100, api.ErrClose: 100, api.ErrNone: 100, api.ErrForm: 100, api.ErrEscape: 50, api.ErrRep: 50} {
		if met[kind] < enough {
			t.Errorf("only %d texts are told %d", met[kind], kind)
		}
	}
}

package sample

import (
	"math"
	"slices"
	"strconv"
	"strings"

	"doublet/api"
)

// Classes: so many normal classes of bytes that lie side by side.
func Classes(width int) [256]uint8 {
	var of [256]uint8
	for b := range of {
		of[b] = uint8(b * width / 256)
	}
	return of
}

// AnyClasses: normal classes, at most so many, and how many they are.
func AnyClasses(most int, next func(most int) int) ([256]uint8, int) {
	var of [256]uint8
	numbers := map[int]int{}
	for b := range of {
		some := next(most)
		if _, ok := numbers[some]; !ok {
			numbers[some] = len(numbers)
		}
		of[b] = uint8(numbers[some])
	}
	return of, len(numbers)
}

// Called: so many names.
func Called(n int) []string {
	var l []string
	for i := range n {
		l = append(l, "n"+strconv.Itoa(i))
	}
	// Some are as short, and as long, as names may be.
	copy(l, []string{"x", "_", strings.Repeat("aZ_9", api.MaxName/4)})
	return l
}

// Quiet: a machine of so many states and classes that is at one state, whatever comes, and tells nothing.
func Quiet(states, width int) api.Dfa {
	d := api.Dfa{Of: Classes(width), Width: width, Label: make([]int, states)}
	for s := range states {
		d.Next = append(d.Next, slices.Repeat([]int{s}, width))
	}
	return d
}

// Leading: one that comes to all its states, and tells all of so many names, if it has so many states beside the one at first.
func Leading(states, width, names int) api.Dfa {
	d := Quiet(states, width)
	d.Names = Called(names)
	for s, row := range d.Next {
		for c := range row {
			row[c] = (s*(c+1) + 1) % states
		}
		d.Label[s] = s % (names + 1)
	}
	return d
}

// Rows: a machine with the names that a text has, labels, and rows.
func Rows(names string, labels []int, l ...[]int) api.Dfa {
	d := Quiet(len(labels), len(l[0]))
	d.Names, d.Label, d.Next = strings.Fields(names), labels, l
	return d
}

// Ring: a machine of one class that goes round, from state to state, through labels, with the names that a text has.
func Ring(names string, labels ...int) api.Dfa {
	d := Quiet(len(labels), 1)
	for s, row := range d.Next {
		row[0] = (s + 1) % len(labels)
	}
	d.Label, d.Names = labels, strings.Fields(names)
	return d
}

// EachDfa visits all machines of so many states and classes, with one of so many labels, or none, at each state.
func EachDfa(states, width, labels int, visit func(d api.Dfa)) {
	codes := 1
	for range states {
		codes *= labels + 1
	}
	for range states * width {
		codes *= states
	}
	for code := range codes {
		digit := func(base int) int {
			n := code % base
			code /= base
			return n
		}
		d := Quiet(states, width)
		d.Names = Called(labels)
		for s, row := range d.Next {
			d.Label[s] = digit(labels + 1)
			for class := range row {
				row[class] = digit(states)
			}
		}
		visit(d)
	}
}

// AnyDfa: a machine of so many states that may be: it comes to few states, to many, or to all.
func AnyDfa(states int, next func(most int) int) api.Dfa {
	d := api.Dfa{Names: Called([]int{0, 1, 2, 5, api.MaxRules}[next(5)])}
	d.Of, d.Width = AnyClasses([]int{1, 2, 3, 4, 8, 300}[next(6)], next)
	if next(20) == 0 {
		d.Of, d.Width = Classes(256), 256
	}
	way, few := next(5), 1+next(4)
	for s := range states {
		row := make([]int, d.Width)
		for c := range row {
			row[c] = []int{next(states), (s + next(few)) % states, min(s+next(3), states-1), max(s-next(3), 0), next(min(few, states))}[way]
			if next(8) == 0 {
				row[c] = []int{s, next(states)}[next(2)]
			}
		}
		d.Next = append(d.Next, row)
	}
	d.Label = make([]int, states)
	for range []int{0, 1, states}[next(3)] {
		d.Label[next(states)] = next(len(d.Names) + 1)
	}
	return d
}

// ClassWords: all words of one byte of each class of a machine, up to some hundred; and random ones.
func ClassWords(d api.Dfa, next func(most int) int) []string {
	classes := make([][]byte, d.Width)
	for b, class := range d.Of {
		classes[class] = append(classes[class], byte(b))
	}
	bytes := ""
	for _, some := range classes {
		at := next(len(some))
		bytes += string(some[at : at+1])
	}
	length := 1
	for power := len(bytes); power*len(bytes) < 200 && length < 8; power *= len(bytes) {
		length++
	}
	l := AllWords(bytes, length)
	for i := range 40 {
		l = append(l, AnyWord(i, bytes, next))
	}
	return l
}

// Behind: where a machine that may be is behind a word. Package dfa asks each time whether it may be, which takes long of many words.
func Behind(d api.Dfa, w string) int {
	s := 0
	for i := range len(w) {
		s = d.Next[s][d.Of[w[i]]]
	}
	return s
}

// WithRow: the same machine but for one row; all other rows lie in the same memory.
func WithRow(d api.Dfa, s int, row []int) api.Dfa {
	d.Next = slices.Clone(d.Next)
	d.Next[s] = row
	return d
}

// WithNext: the same machine but for the state behind one, by a class.
func WithNext(d api.Dfa, s, class, to int) api.Dfa {
	row := slices.Clone(d.Next[s])
	row[class] = to
	return WithRow(d, s, row)
}

// WithLabel: the same machine but for one label.
func WithLabel(d api.Dfa, s, label int) api.Dfa {
	d.Label = slices.Clone(d.Label)
	d.Label[s] = label
	return d
}

// WithName: the same machine but for one name.
func WithName(d api.Dfa, place int, name string) api.Dfa {
	d.Names = slices.Clone(d.Names)
	d.Names[place] = name
	return d
}

// WrongNames: texts that are no names.
func WrongNames() []string {
	return []string{"", "1", "9a", "0_", " ", " a", "a ", "a b", "a\n", "a:", ":", "#", "a-b", "-", "a.b", "a\x00", "\x00", "\xff", "a\xff", "\u00e9", "@", "[", "`", "{", "/", "a/", "a:b",
		strings.Repeat("a", api.MaxName+1), strings.Repeat("_9", api.MaxName), strings.Repeat("a", 1<<20)}
}

// EachWrongDfa visits machines that may not be, each for one thing alone, by its name; some of them lie in the same memory.
func EachWrongDfa(visit func(fault string, d api.Dfa)) {
	visit("states", api.Dfa{})
	visit("states", api.Dfa{Next: [][]int{}, Label: []int{}, Names: []string{}})
	for _, states := range []int{api.MaxStates + 1, api.MaxStates + 2, 2 * api.MaxStates} {
		visit("states", Quiet(states, 1))
		visit("states", Leading(states, 2, 3))
	}
	for _, size := range [][3]int{{1, 1, 0}, {1, 2, 1}, {2, 1, 2}, {3, 256, 64}, {7, 3, 5}, {100, 16, 64}, {70, 255, 4}, {api.MaxStates, 2, 63}} {
		d := Leading(size[0], size[1], size[2])
		wrongClasses(d, visit)
		wrongWidths(d, visit)
		wrongRows(d, visit)
		wrongLabels(d, visit)
		wrongNames(d, visit)
	}
}

// wrongClasses: those whose classes are as many as Width, but not normal: two numbers stand the wrong way round, or one is left out.
func wrongClasses(d api.Dfa, visit func(fault string, d api.Dfa)) {
	turned := func(turn func(n int) int) {
		x := d
		for b, n := range d.Of {
			x.Of[b] = uint8(turn(int(n)))
		}
		if x.Of != d.Of {
			visit("classes", x)
		}
	}
	last := d.Width - 1
	for _, pair := range [][2]int{{0, 1}, {0, last}, {last - 1, last}} {
		turned(func(n int) int {
			switch n {
			case pair[0]:
				return pair[1]
			case pair[1]:
				return pair[0]
			}
			return n
		})
	}
	for _, left := range []int{0, last / 2, last} {
		turned(func(n int) int {
			if n >= left && last < 255 {
				return n + 1
			}
			return n
		})
	}
}

// wrongWidths: those whose Width is not how many classes there are; each row has as many states as Width, if it can.
func wrongWidths(d api.Dfa, visit func(fault string, d api.Dfa)) {
	width := d.Width
	for _, d.Width = range []int{math.MinInt, -1 << 32, -width, -1, 0, width - 1, width + 1, 2 * width, 255, 256, 257, 512, width + 256, width + 65536, width + 1<<32, math.MaxInt} {
		if d.Width == width {
			continue
		}
		visit("width", d)
		if x := d; d.Width >= 0 && d.Width < 600 {
			x.Next = nil
			for range d.Next {
				x.Next = append(x.Next, make([]int, d.Width))
			}
			visit("width", x)
		}
	}
}

// ends: the first, a middle and the last one of so many places.
func ends(n int) []int {
	if n == 0 {
		return nil
	}
	return slices.Compact([]int{0, n / 2, n - 1})
}

// wrongRows: those with a row that is too short, too long or none, or has what is no state; and those with more rows than labels.
func wrongRows(d api.Dfa, visit func(fault string, d api.Dfa)) {
	states := len(d.Label)
	for _, s := range ends(states) {
		for _, row := range [][]int{nil, {}, make([]int, d.Width-1), make([]int, d.Width+1), make([]int, d.Width+256)} {
			visit("row", WithRow(d, s, row))
		}
		for _, class := range ends(d.Width) {
			for _, to := range Outside(states) {
				visit("behind", WithNext(d, s, class, to))
			}
		}
	}
	x := d
	for _, more := range []int{1, 2, 100} {
		x.Next = slices.Concat(d.Next, slices.Repeat(d.Next[:1], more))
		visit("rows", x)
	}
	// The states behind one are among those that have both.
	x = Quiet(states, d.Width)
	x.Next = x.Next[:states-1]
	visit("rows", x)
	x.Next = nil
	visit("rows", x)
}

// wrongLabels: those with a label that is none, and those with more labels than rows.
func wrongLabels(d api.Dfa, visit func(fault string, d api.Dfa)) {
	for _, s := range ends(len(d.Label)) {
		for _, label := range []int{math.MinInt, -1 << 32, -len(d.Names), -1, len(d.Names) + 1, len(d.Names) + 2, api.MaxRules + 1, 256, 1 << 32, math.MaxInt} {
			if label != 0 {
				visit("label", WithLabel(d, s, label))
			}
		}
	}
	for _, more := range []int{1, 2, 100} {
		if x := d; len(d.Label)+more <= api.MaxStates {
			x.Label = append(slices.Clone(d.Label), make([]int, more)...)
			visit("labels", x)
		}
	}
	if x := d; len(d.Label) > 1 {
		x.Next = slices.Repeat([][]int{make([]int, d.Width)}, len(d.Label))
		x.Label = d.Label[:len(d.Label)-1]
		visit("labels", x)
		x.Label = d.Label[:1]
		visit("labels", x)
	}
}

// wrongNames: those with too many names, two that are the same, or one that is none.
func wrongNames(d api.Dfa, visit func(fault string, d api.Dfa)) {
	x := d
	for _, names := range []int{api.MaxRules + 1, api.MaxRules + 2, 256, 1000} {
		x.Names = Called(names)
		visit("many names", x)
	}
	for place, name := range d.Names {
		if place > 0 {
			visit("names twice", WithName(d, place-1, name))
			visit("names twice", WithName(d, 0, name))
		}
	}
	for _, name := range WrongNames() {
		for _, place := range ends(len(d.Names)) {
			visit("name", WithName(d, place, name))
		}
		if x = d; len(d.Names) < api.MaxRules {
			x.Names = append(slices.Clone(d.Names), name)
			visit("name", x)
		}
	}
}

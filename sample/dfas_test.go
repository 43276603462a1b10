package sample

import (
	"slices"
	"testing"

	"doublet/api"
	"doublet/dfa"
	"doublet/parts"
	"doublet/spec"
)

func TestClasses(t *testing.T) {
	for width := 1; width <= 256; width++ {
		if of := Classes(width); !parts.Right(of, width) || !slices.IsSorted(of[:]) {
			t.Errorf("Classes(%d) are %v", width, of)
		}
	}
	next := Chances()
	met := map[int]int{}
	for i := range 2000 {
		most := []int{1, 2, 3, 8, 300}[i%5]
		of, width := AnyClasses(most, next)
		if !parts.Right(of, width) || width > most {
			t.Errorf("AnyClasses of at most %d are %v, and %d", most, of, width)
		}
		met[width]++
	}
	if len(met) < 20 || min(met[1], met[2], met[3], met[8]) < 300 {
		t.Errorf("so often there are so many classes: %v", met)
	}
}

func TestCalled(t *testing.T) {
	for _, n := range []int{0, 1, 2, 3, 64, 1000} {
		l := Called(n)
		met := map[string]int{}
		for _, name := range l {
			if met[name]++; !spec.Name(name) {
				t.Errorf("%q is no name", name)
			}
		}
		if len(l) != n || len(met) != n {
			t.Errorf("Called(%d) are %d, of which %d are not the same", n, len(l), len(met))
		}
	}
	if l := Called(3); len(l[0]) != 1 || len(l[2]) != api.MaxName {
		t.Errorf("Called are %q", l)
	}
	for _, name := range WrongNames() {
		if spec.Name(name) {
			t.Errorf("%q is a name", name)
		}
	}
}

func TestDfasThatMayBe(t *testing.T) {
	for _, states := range []int{1, 2, 3, 64, 1000, 65536} {
		for _, width := range []int{1, 2, 3, 16, 256} {
			if states*width > 1<<18 {
				continue
			}
			d := Quiet(states, width)
			if !dfa.Right(d) || len(d.Label) != states || d.Width != width || len(dfa.Reach(d)) != 1 || len(dfa.Live(d)) != 0 {
				t.Errorf("Quiet(%d, %d) has %d states and %d classes", states, width, len(d.Label), d.Width)
			}
			for _, names := range []int{0, 1, 5, 64} {
				d := Leading(states, width, names)
				if !dfa.Right(d) || len(d.Label) != states || d.Width != width || len(d.Names) != names || len(dfa.Reach(d)) != states || slices.Max(d.Label) != min(names, states-1) {
					t.Errorf("Leading(%d, %d, %d) has %d states and %d classes", states, width, names, len(d.Label), d.Width)
				}
			}
		}
	}
	if dfa.Right(Quiet(0, 1)) || dfa.Right(Quiet(65537, 1)) || dfa.Right(Leading(2, 1, 65)) {
		t.Error("machines of too few states, or too many, may be")
	}
}

func TestRows(t *testing.T) {
	d := Rows("x yy", []int{2, 0}, []int{0, 1, 1}, []int{1, 0, 1})
	if !dfa.Right(d) || d.Width != 3 || !slices.Equal(d.Label, []int{2, 0}) || !slices.Equal(d.Names, []string{"x", "yy"}) || dfa.To(d, 1, 100) != 0 || dfa.To(d, 0, 255) != 1 {
		t.Errorf("Rows are %v", d)
	}
	if d := Rows("", []int{0}, []int{0}); !dfa.Same(d, Quiet(1, 1)) {
		t.Errorf("Rows of one state are %v", d)
	}
}

// Each machine is there once, and there are as many as there can be.
func TestEachDfa(t *testing.T) {
	for _, r := range []struct{ states, width, labels, want int }{{1, 1, 0, 1}, {1, 2, 2, 3}, {2, 1, 1, 4 * 4}, {2, 2, 2, 9 * 16}, {3, 1, 1, 8 * 27}, {2, 3, 0, 64}} {
		met := map[string]int{}
		EachDfa(r.states, r.width, r.labels, func(d api.Dfa) {
			if !dfa.Right(d) || len(d.Label) != r.states || d.Width != r.width || len(d.Names) != r.labels {
				t.Errorf("of %v there is %v", r, d)
			}
			text := ""
			for _, number := range dfaNumbers(d) {
				text += string(rune('0' + *number))
			}
			met[text]++
		})
		for text, times := range met {
			if times != 1 {
				t.Errorf("of %v there is %s %d times", r, text, times)
			}
		}
		if len(met) != r.want {
			t.Errorf("of %v there are %d", r, len(met))
		}
	}
}

func TestAnyDfa(t *testing.T) {
	next := Chances()
	all, live, wide, named, told := 0, 0, 0, 0, 0
	for i := range 3000 {
		states := 1 + i%30
		d := AnyDfa(states, next)
		if !dfa.Right(d) || len(d.Label) != states {
			t.Errorf("AnyDfa of %d states has %d", states, len(d.Label))
		}
		if len(dfa.Reach(d)) == states {
			all++
		}
		if n := len(dfa.Live(d)); n > 0 && n < states {
			live++
		}
		if d.Width == 256 {
			wide++
		}
		if len(d.Names) == api.MaxRules {
			named++
		}
		if slices.Max(d.Label) > 0 {
			told++
		}
	}
	if min(all, live, wide, named) < 100 || max(all, live, wide, named) > 2000 || told < 1000 || told > 2500 {
		t.Errorf("%d are at all states, %d have some live states, %d all classes, %d all names, %d a label", all, live, wide, named, told)
	}
}

// Words of each class, all short ones and some long ones.
func TestClassWords(t *testing.T) {
	next := Chances()
	for _, width := range []int{1, 2, 3, 5, 14, 100, 256} {
		d := Quiet(2, width)
		l := ClassWords(d, next)
		classes, met := map[uint8]int{}, map[string]int{}
		longest, least := 0, 0
		for _, w := range l {
			longest = max(longest, len(w))
			text := make([]byte, len(w))
			for i := range len(w) {
				text[i] = d.Of[w[i]]
				classes[text[i]]++
			}
			met[string(text)]++
			if len(w) == 1 && (w[0] == 0 || d.Of[w[0]-1] != d.Of[w[0]]) {
				least++
			}
		}
		short := 1 + width
		if width*width < 200 {
			short += width * width
		}
		if len(classes) != width || longest != 39 || len(l) > 1000 || len(met) < short || met[""] == 0 {
			t.Errorf("of %d classes there are %d, in %d words of up to %d bytes", width, len(classes), len(met), longest)
		}
		if least > 3+width/2 && width < 256 {
			t.Errorf("of %d classes %d bytes are the least ones", width, least)
		}
	}
}

func TestBehind(t *testing.T) {
	next := Chances()
	for i := range 200 {
		d := AnyDfa(1+i%20, next)
		for _, w := range ClassWords(d, next)[:10] {
			if got := Behind(d, w); got != dfa.Run(d, []byte(w)) {
				t.Errorf("Behind(%q) is %d", w, got)
			}
		}
		w := AnyWord(300, Edgy, next)
		if got := Behind(d, w); got != dfa.Run(d, []byte(w)) || Behind(d, "") != 0 {
			t.Errorf("Behind(%q) is %d", w, got)
		}
	}
}

// What is made another one is that alone, in an answer alone.
func TestWithOneOther(t *testing.T) {
	kept, d := Leading(4, 3, 2), Leading(4, 3, 2)
	l := []api.Dfa{kept, WithRow(d, 0, nil), WithRow(d, 3, []int{1}), WithNext(d, 1, 2, 77), WithNext(d, 3, 0, -1), WithLabel(d, 0, 5), WithLabel(d, 3, 6), WithName(d, 0, "y"), WithName(d, 1, "z")}
	for i, x := range l {
		if dfa.Same(x, kept) != (i == 0) {
			t.Errorf("the machine %d is the same", i)
		}
		x.Next, x.Label, x.Names = kept.Next, kept.Label, kept.Names
		if !dfa.Same(x, kept) {
			t.Errorf("the machine %d has other classes", i)
		}
	}
	if !dfa.Same(d, kept) {
		t.Errorf("what was handed in is %v", d)
	}
	if l[3].Next[1][2] != 77 || l[4].Next[3][0] != -1 || l[5].Label[0] != 5 || l[7].Names[0] != "y" || len(l[1].Next[0]) != 0 {
		t.Error("the wrong thing is another one")
	}
}

// faultsOf: all that a machine may not be for.
func faultsOf(d api.Dfa) []string {
	var l []string
	put := func(is bool, fault string) {
		if is && !slices.Contains(l, fault) {
			l = append(l, fault)
		}
	}
	normal, width := parts.Norm(d.Of)
	put(d.Of != normal, "classes")
	put(d.Width != width, "width")
	put(len(d.Label) < 1 || len(d.Label) > api.MaxStates, "states")
	put(len(d.Next) != len(d.Label), "rows")
	for _, row := range d.Next {
		put(len(row) != d.Width, "row")
		for _, to := range row {
			put(to < 0 || to >= len(d.Label), "behind")
		}
	}
	for _, label := range d.Label {
		put(label < 0 || label > len(d.Names), "label")
	}
	put(len(d.Names) > api.MaxRules, "many names")
	met := map[string]int{}
	for _, name := range d.Names {
		met[name]++
		put(met[name] > 1, "names twice")
		put(!spec.Name(name), "name")
	}
	return l
}

// Each fault is met, in most machines alone; and it is called as it is.
func TestEachWrongDfa(t *testing.T) {
	met, alone := map[string]int{}, map[string]int{}
	EachWrongDfa(func(fault string, d api.Dfa) {
		if dfa.Right(d) {
			t.Errorf("with the fault %s a machine may be", fault)
		}
		if fault == "labels" {
			fault = "rows"
		}
		met[fault]++
		l := faultsOf(d)
		if !slices.Contains(l, fault) {
			t.Errorf("with the fault %s there is %v", fault, l)
		}
		if len(l) == 1 {
			alone[fault]++
		}
	})
	// A machine without states has no classes, either; of a machine of one state there is no row less.
	for _, fault := range []string{"classes", "width", "rows", "row", "behind", "label", "many names", "names twice", "name"} {
		if alone[fault] < 20 || 3*alone[fault] < met[fault] {
			t.Errorf("so often each fault is met, %v, and alone, %v", met, alone)
		}
	}
	if len(met) != 10 || alone["states"] < 6 {
		t.Errorf("so often each fault is met, %v, and alone, %v", met, alone)
	}
}

// dfaNumbers: all numbers in a machine's lists.
func dfaNumbers(d api.Dfa) []*int {
	var l []*int
	for _, row := range append(slices.Clone(d.Next), d.Label) {
		for i := range row {
			l = append(l, &row[i])
		}
	}
	return l
}

func TestDfaMemory(t *testing.T) {
	d := Leading(3, 2, 2)
	x := RoomyDfa(d)
	if !dfa.Same(x, d) || dfa.Same(StretchedDfa(x), d) || !dfa.Same(StretchedDfa(x), StretchedDfa(RoomyDfa(d))) {
		t.Errorf("RoomyDfa is %v", x)
	}
	// Behind each list there is room, and all of it is told.
	stretched := StretchedDfa(x)
	if len(stretched.Next) == len(d.Next) || len(stretched.Next[2]) == 2 || len(stretched.Label) == len(d.Label) || len(stretched.Names) == len(d.Names) {
		t.Errorf("StretchedDfa is %v", stretched)
	}
	kept := StretchedDfa(RoomyDfa(d))
	for i, number := range dfaNumbers(stretched) {
		*number += 50
		if dfa.Same(StretchedDfa(x), kept) {
			t.Errorf("StretchedDfa does not tell the number %d", i)
		}
		*number -= 50
	}
	for place := range stretched.Names {
		stretched.Names[place] += "x"
		if dfa.Same(StretchedDfa(x), kept) {
			t.Errorf("StretchedDfa does not tell the name %d", place)
		}
		stretched.Names[place] = kept.Names[place]
	}
	numbers := dfaNumbers(stretched)
	ScribbleDfa(x)
	for i, number := range numbers {
		if *number < 77 {
			t.Errorf("ScribbleDfa leaves the number %d", i)
		}
	}
	for _, name := range stretched.Names {
		if name != "scribbled" {
			t.Errorf("ScribbleDfa leaves the name %q", name)
		}
	}
	for s, row := range x.Next[:cap(x.Next)] {
		if !slices.Equal(row, []int{78}) {
			t.Errorf("ScribbleDfa leaves the row %d", s)
		}
	}
	if !dfa.Same(d, Leading(3, 2, 2)) {
		t.Errorf("ScribbleDfa leaves %v", d)
	}
	ScribbleDfa(api.Dfa{})
}

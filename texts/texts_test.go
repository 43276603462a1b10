package texts

import (
	"slices"
	"strings"
	"testing"

	"doublet/api"
	"doublet/sample"
	"doublet/tree"
)

func TestTree(t *testing.T) {
	for text, want := range map[string]api.Node{"": sample.Empty(), "a": sample.A(), "ab*": sample.Of(4, sample.A(), sample.Of(6, sample.B())), Nothing: sample.Hole()} {
		if got := Tree(text); !tree.Same(got, want) {
			t.Errorf("Tree(%q) is %v", text, got)
		}
	}
	defer func() {
		if recover() == nil {
			t.Error("Tree of a wrong text does not panic")
		}
	}()
	Tree("a)")
}

func TestBrief(t *testing.T) {
	for _, text := range []string{"", "a", "ab*|c{2,3}", Nothing} {
		if got := Brief(Tree(text)); got != text {
			t.Errorf("Brief of %q is %q", text, got)
		}
	}
	met := map[string]bool{}
	for _, x := range []api.Node{sample.None(), sample.Hole(), sample.Of(6, sample.None()), sample.Of(6, sample.Hole()), sample.Of(4), {}, sample.Rep(sample.A(), 3, 2), sample.Of(77)} {
		met[Brief(x)] = true
	}
	if len(met) != 8 {
		t.Errorf("Brief tells several trees in one way: %v", met)
	}
	for _, x := range []api.Node{sample.Beside(4, 4096, sample.A()), sample.Beside(4, 1<<18, sample.None()), sample.Chain(4096), sample.Within(4096, sample.None(), func(x api.Node) api.Node { return sample.Of(8, x) })} {
		if got := Brief(x); len(got) > 310 || strings.TrimSpace(got) == "" {
			t.Errorf("Brief has %d bytes", len(got))
		}
	}
}

func TestMachine(t *testing.T) {
	n := api.Nfa{States: 4, Start: 1, Links: []api.Link{{From: 1, To: 2}, {From: -3, To: 40}}, Edges: []api.Edge{{From: 0, Set: sample.A().Set, To: 1}, {From: 1, Set: sample.Leaf('b', 'c').Set, To: 2}}, Accept: []int{0, 64, -1, 5}}
	if got, want := Machine(n), "4 states from 1, links 1>2 -3>40, edges 0[a]1 1[bc]2, labels [0 64 -1 5]"; got != want {
		t.Errorf("Machine is %q, want %q", got, want)
	}
	if got, want := Machine(api.Nfa{}), "0 states from 0, links , edges , labels []"; got != want {
		t.Errorf("Machine is %q, want %q", got, want)
	}
	kept := Machine(n)
	for i := range sample.Numbers(&n) {
		number := sample.Numbers(&n)[i]
		*number += 7
		if Machine(n) == kept {
			t.Errorf("Machine does not tell the number %d", i)
		}
		*number -= 7
	}
}

func TestClasses(t *testing.T) {
	for want, of := range map[string][256]uint8{"0-255:0": {}, "0-96:0 97-97:1 98-255:0": {'a': 1}, "0-0:9 1-1:4 2-254:0 255-255:7": {9, 4, 255: 7}} {
		if got := Classes(of); got != want {
			t.Errorf("Classes is %q, want %q", got, want)
		}
	}
}

func TestDfa(t *testing.T) {
	d := api.Dfa{Of: [256]uint8{'a': 1}, Width: 2, Next: [][]int{{0, -1}, {}, {12}}, Label: []int{0, 3}, Names: []string{"a", "b c"}}
	want := `rows [0 -1] [] [12], labels [0 3], names "a" "b c", width 2, classes 0-96:0 97-97:1 98-255:0`
	if got := Dfa(d); got != want {
		t.Errorf("Dfa is %q, want %q", got, want)
	}
	if got := BriefDfa(d); got != "2 states of width 2: "+want {
		t.Errorf("BriefDfa is %q", got)
	}
	if got, want := Dfa(api.Dfa{}), "rows, labels [], names, width 0, classes 0-255:0"; got != want {
		t.Errorf("Dfa is %q, want %q", got, want)
	}
	met := map[string]bool{}
	l := []api.Dfa{d, {}, {Width: 1}, {Of: [256]uint8{1}}, {Of: [256]uint8{255: 1}}, {Label: []int{1}}, {Label: []int{11}}, {Label: []int{1, 1}}}
	for _, rows := range [][][]int{{nil}, {nil, nil}, {{1}}, {{11}}, {{1, 1}}, {{1}, {1}}, {{1}, nil}} {
		l = append(l, api.Dfa{Next: rows})
	}
	for _, names := range [][]string{{""}, {"", ""}, {"a"}, {"ab"}, {"a", "b"}, {"a b"}, {"a\" \"b"}, {"\xff"}, {"\ufffd"}} {
		l = append(l, api.Dfa{Names: names})
	}
	for _, d := range l {
		met[Dfa(d)] = true
	}
	if len(met) != len(l) {
		t.Errorf("Dfa tells %d machines in %d ways", len(l), len(met))
	}
	// Of a great machine no more is told than has room in a line.
	for _, d := range []api.Dfa{sample.Quiet(65536, 3), sample.Quiet(2, 256), sample.Leading(100, 256, 64), {Names: slices.Repeat([]string{"a"}, 1000)}} {
		if got := BriefDfa(d); len(got) > 650 || !strings.Contains(got, "states of width") {
			t.Errorf("BriefDfa has %d bytes: %s", len(got), got)
		}
	}
}

func TestSeveralAndFront(t *testing.T) {
	for n, want := range []string{"0 trees, ", "1 trees, a", "2 trees, a and b*", "3 trees, a and b* and "} {
		if got := Several([]api.Node{sample.A(), Tree("b*"), sample.Empty()}[:n]); got != want {
			t.Errorf("Several is %q, want %q", got, want)
		}
	}
	if got := Several(slices.Repeat([]api.Node{sample.Beside(4, 4096, sample.A())}, 1000)); len(got) > 650 || !strings.HasPrefix(got, "1000 trees") {
		t.Errorf("Several has %d bytes", len(got))
	}
	for _, n := range []int{0, 1, 599, 600} {
		if got := Front(strings.Repeat("x", n)); len(got) != n {
			t.Errorf("Front of %d bytes has %d", n, len(got))
		}
	}
	if got := Front(strings.Repeat("x", 601)); got != strings.Repeat("x", 600)+" .." {
		t.Errorf("Front of 601 bytes is %q", got)
	}
}

func TestRules(t *testing.T) {
	l := []api.Rule{{Name: "x", Body: sample.A()}, {Name: "y_1", Body: Tree("b*|c")}, {Name: strings.Repeat("z", 1<<20), Body: sample.Beside(4, 4096, sample.A())}}
	for n, want := range []string{"0 rules, ", "1 rules, x:a", "2 rules, x:a and y_1:b*|c"} {
		if got := Rules(l[:n]); got != want {
			t.Errorf("Rules is %q, want %q", got, want)
		}
	}
	for _, some := range [][]api.Rule{l, slices.Repeat(l, 1000)} {
		if got := Rules(some); len(got) > 650 || !strings.Contains(got, " and y_1:b*|c and zzz") {
			t.Errorf("Rules is %q", got)
		}
	}
}

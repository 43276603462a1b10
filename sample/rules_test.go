package sample

import (
	"slices"
	"testing"

	"doublet/api"
	"doublet/spec"
	"doublet/tree"
)

func TestRuled(t *testing.T) {
	for _, many := range []int{0, 1, 2, 3, 64} {
		l := alike(many)
		if len(l) != many || !spec.Right(l) {
			t.Errorf("Ruled of %d trees are %d rules", many, len(l))
		}
	}
	l := Ruled(A(), B(), Empty())
	if !tree.Same(l[0].Body, A()) || !tree.Same(l[1].Body, B()) || !tree.Same(l[2].Body, Empty()) || l[0].Name != Called(3)[0] || l[2].Name != Called(3)[2] {
		t.Errorf("Ruled is %v", l)
	}
	other := WithRule(l, 1, api.Rule{Name: "y", Body: C()})
	if !spec.Same(l, Ruled(A(), B(), Empty())) || other[1].Name != "y" || !tree.Same(other[1].Body, C()) || !spec.Same(other[:1], l[:1]) || !spec.Same(other[2:], l[2:]) || len(other) != 3 {
		t.Errorf("WithRule is %v, of %v", other, l)
	}
}

// Each fault is met, alone, at the first, a middle and the last place.
func TestWrongRules(t *testing.T) {
	met := map[string]int{}
	for l := range WrongRules() {
		if spec.Right(l) {
			t.Errorf("%d rules, the first one %v, may be", len(l), l[0])
		}
		if len(l) > api.MaxRules {
			met["many"]++
			continue
		}
		var faults []string
		for place, rule := range l {
			where := map[int]string{0: "first ", len(l) - 1: "last "}[place]
			if !spec.Name(rule.Name) {
				faults = append(faults, where+"name")
			}
			if !tree.Right(rule.Body) {
				faults = append(faults, where+"tree")
			}
			if slices.ContainsFunc(l[:place], func(x api.Rule) bool { return x.Name == rule.Name }) {
				faults = append(faults, where+"twice")
			}
		}
		if len(faults) != 1 {
			t.Errorf("of %d rules there is %v", len(l), faults)
		}
		met[faults[0]]++
	}
	for _, fault := range []string{"many", "first name", "last name", "name", "first tree", "last tree", "tree", "last twice", "twice"} {
		if met[fault] < 4 {
			t.Errorf("so often each fault is met: %v", met)
		}
	}
	// Whoever stops is told no more.
	for _, stop := range []int{1, 4, 5, 50, 500} {
		at := 0
		for range WrongRules() {
			if at++; at == stop {
				break
			}
		}
	}
}

func TestRulesMemory(t *testing.T) {
	l := Ruled(Of(4, A(), Of(6, B())), B(), Empty())
	x := RoomyRules(l)
	if !spec.Same(x, l) || cap(x) == len(x) || cap(x[0].Body.Kids) == 2 {
		t.Errorf("RoomyRules are %v", x)
	}
	kept := DumpRules(x)
	if kept != DumpRules(RoomyRules(l)) {
		t.Errorf("DumpRules is %s", kept)
	}
	for i, change := range []func(l []api.Rule){
		func(l []api.Rule) { l[0].Name += "x" }, func(l []api.Rule) { l[2].Body.Kind = 1 }, func(l []api.Rule) { l[0].Body.Kids[1].Kids[0].Lo = 5 }, func(l []api.Rule) { l[:4][3].Name = "y" }, func(l []api.Rule) { l[0].Body.Kids[:3][2].Hi++ },
	} {
		y := RoomyRules(l)
		if change(y); DumpRules(y) == kept {
			t.Errorf("DumpRules does not tell the change %d", i)
		}
	}
	kids := x[0].Body.Kids
	ScribbleRules(x)
	for i, rule := range x[:cap(x)] {
		if rule.Name != "scribbled" || rule.Body.Kind != 88 {
			t.Errorf("ScribbleRules leaves %v at %d", rule, i)
		}
	}
	if kids[0].Kind != 77 || !spec.Same(l, Ruled(Of(4, A(), Of(6, B())), B(), Empty())) {
		t.Errorf("ScribbleRules leaves %v, and %v", kids, l)
	}
}

package texts

import (
	"strings"
	"testing"

	"doublet/api"
	"doublet/sample"
	"doublet/tree"
)

func TestTree(t *testing.T) {
	for text, want := range map[string]api.Node{"": sample.Empty(), "a": sample.A(), "ab*": sample.Of(4, sample.A(), sample.Of(6, sample.B())), Nothing: sample.Hole()} {
		if got := Tree(text); !tree.Same(got, want) {
			t.Errorf("Tree(%q) is %v", text, got)
		}
	}
	defer func() {
		if recover() == nil {
			t.Error("Tree of a wrong text does not panic")
		}
	}()
	Tree("a)")
}

func TestBrief(t *testing.T) {
	for _, text := range []string{"", "a", "ab*|c{2,3}", Nothing} {
		if got := Brief(Tree(text)); got != text {
			t.Errorf("Brief of %q is %q", text, got)
		}
	}
	met := map[string]bool{}
	for _, x := range []api.Node{sample.None(), sample.Hole(), sample.Of(6, sample.None()), sample.Of(6, sample.Hole()), sample.Of(4), {}, sample.Rep(sample.A(), 3, 2), sample.Of(77)} {
		met[Brief(x)] = true
	}
	if len(met) != 8 {
		t.Errorf("Brief tells several trees in one way: %v", met)
	}
	for _, x := range []api.Node{sample.Beside(4, 4096, sample.A()), sample.Beside(4, 1<<18, sample.None()), sample.Chain(4096), sample.Within(4096, sample.None(), func(x api.Node) api.Node { return sample.Of(8, x) })} {
		if got := Brief(x); len(got) > 310 || strings.TrimSpace(got) == "" {
			t.Errorf("Brief has %d bytes", len(got))
		}
	}
}

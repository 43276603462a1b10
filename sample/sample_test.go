package sample

import (
	"slices"
	"strings"
	"sync/atomic"
	"testing"

	"doublet/api"
	"doublet/class"
	"doublet/parse"
	"doublet/tree"
)

// holdSize: a tree may be, and has so many nodes.
func holdSize(t *testing.T, name string, x api.Node, n int) {
	t.Helper()
	if tree.Size(x) != n || tree.Right(x) != (n <= 4096) {
		t.Errorf("%s of %d has %d nodes, and Right is %t", name, n, tree.Size(x), tree.Right(x))
	}
}

func TestChances(t *testing.T) {
	first, second := Chances(), Chances()
	met := map[int]int{}
	for range 1000 {
		x, y := first(10), second(10)
		if x != y {
			t.Errorf("the one row has %d, the other one %d", x, y)
		}
		met[x]++
	}
	for x := range 10 {
		if met[x] < 50 {
			t.Errorf("there are only %d %ds", met[x], x)
		}
	}
	if len(met) != 10 {
		t.Errorf("there are %d numbers", len(met))
	}
}

func TestAtOnce(t *testing.T) {
	var met [1000]atomic.Int64
	AtOnce(len(met), func(place int) { met[place].Add(1) })
	for place := range met {
		if n := met[place].Load(); n != 8 {
			t.Errorf("the place %d was checked %d times", place, n)
		}
	}
	AtOnce(0, func(place int) { t.Errorf("the place %d was checked", place) })
}

// Answers that are others at once, once all was asked at once, or never.
func TestOthers(t *testing.T) {
	const count = 100
	same := func(x, y int64) bool { return x == y }
	for _, r := range []struct{ from, upto int64 }{{0, 1}, {1, 2}, {4, 5}, {8, 9}, {9, 10}, {10, 99}, {3, 99}} {
		var met [count]atomic.Int64
		var l, want []int
		for place := range count {
			l = append(l, place)
			if place%7 == 2 && r.from < 10 {
				want = append(want, place)
			}
		}
		got := Others(l, func(place int) int64 {
			times := met[place].Add(1) - 1
			if place%7 == 2 && times >= r.from && times < r.upto {
				return -1
			}
			return 0
		}, same)
		if !slices.Equal(got, want) {
			t.Errorf("Others, of answers that are others from %d to %d, are %v, want %v", r.from, r.upto, got, want)
		}
	}
	if got := Others(nil, func(int) int64 { return 0 }, same); len(got) > 0 {
		t.Errorf("Others of nothing are %v", got)
	}
}

func TestTreesOfASize(t *testing.T) {
	next := Chances()
	for _, n := range []int{1, 2, 3, 4, 5, 12, 13, 100, 1001, 4096, 4097} {
		holdSize(t, "Chain", Chain(n), n)
		holdSize(t, "Grown", Grown(n, next), n)
		holdSize(t, "Small", Small(n, next), n)
		holdSize(t, "Within", Within(n, A(), func(x api.Node) api.Node { return Of(8, x) }), n)
		if n > 2 {
			holdSize(t, "Beside", Beside(4, n, A()), n)
			holdSize(t, "Beside", Beside(5, n, Empty()), n)
		}
		if n%2 == 1 {
			holdSize(t, "Nested", Nested(4, n/2, true), n)
			holdSize(t, "Nested", Nested(5, n/2, false), n)
		}
	}
}

// holdKinds: enough nodes of trees are of each kind.
func holdKinds(t *testing.T, name string, enough int, l []api.Node) {
	t.Helper()
	met := [api.KindRep + 1]int{}
	var meet func(x api.Node)
	meet = func(x api.Node) {
		met[x.Kind]++
		for _, kid := range x.Kids {
			meet(kid)
		}
	}
	for _, x := range l {
		meet(x)
	}
	for kind := api.KindNone; kind <= api.KindRep; kind++ {
		if met[kind] < enough {
			t.Errorf("only %d nodes of %s are of kind %d", met[kind], name, kind)
		}
	}
}

func TestRandomTreesHaveAllKinds(t *testing.T) {
	next := Chances()
	var grown, small []api.Node
	for n := range 300 {
		grown = append(grown, Grown(1+n%30, next))
		small = append(small, Small(1+n%30, next))
	}
	holdKinds(t, "Grown", 50, grown)
	holdKinds(t, "Small", 50, small)
}

func TestWrittenOut(t *testing.T) {
	for name, l := range map[string][]api.Node{"Above": Above(Of(5, None(), Empty())), "Things": Things(), "Around": Around()} {
		met := map[string]bool{}
		for _, x := range l {
			if !tree.Right(x) {
				t.Errorf("%s has %v, which may not be", name, x)
			}
			met[Dump([]api.Node{tree.Copy(x)})] = true
		}
		if len(met) != len(l) {
			t.Errorf("%s has %d trees, and %d different ones", name, len(l), len(met))
		}
	}
	holdKinds(t, "Things", 1, Things())
	holdKinds(t, "Around", 1, Around())
}

// What a tree says, by words that are written out.
func TestWords(t *testing.T) {
	for text, want := range map[string][]string{
		"": {""}, "a": {"a"}, "ab|c": {"c", "ab"}, "a*": {"", "a", "aa", "aaa"}, "a+b?": {"a", "aa", "ab", "aaa", "aab"}, "a{2,}": {"aa", "aaa"}, "a{2}": {"aa"}, "(a|b){1,2}": {"a", "b", "aa", "ab", "ba", "bb"},
		"[^\\x00-\\xff]": nil, "[^\\x00-\\xff]*": {""}, "a[^\\x00-\\xff]": nil, "a{0}": {""}, "(a|){2}": {"", "a", "aa"}, "(ab)*": {"", "ab"}, "(|a)+": {"", "a", "aa", "aaa"},
	} {
		x, bad := parse.Text([]byte(text))
		if bad != (api.Bad{}) {
			t.Errorf("%q is told %v", text, bad)
			continue
		}
		said := Words(x, 3)
		var got []string
		for _, some := range said {
			var l []string
			for w := range some {
				l = append(l, w)
			}
			slices.Sort(l)
			got = append(got, l...)
		}
		if !slices.Equal(got, want) {
			t.Errorf("%q says %q, want %q", text, got, want)
		}
		for _, w := range []string{"", "a", "c", "ab", "ba", "aaa", "abc", "aaaa"} {
			if said.Has(w) != slices.Contains(want, w) {
				t.Errorf("of %q Has(%q) is %t", text, w, said.Has(w))
			}
		}
	}
}

func TestAllWordsAndAnyWord(t *testing.T) {
	if l := AllWords("ab", 2); !slices.Equal(l, []string{"", "a", "b", "aa", "ab", "ba", "bb"}) {
		t.Errorf("AllWords are %q", l)
	}
	if l := AllWords("xyz", 5); len(l) != 1+3+9+27+81+243 || len(AllWords("ab", 0)) != 1 {
		t.Errorf("there are %d words", len(l))
	}
	next := Chances()
	met := map[string]bool{}
	for range 1000 {
		met[AnyWord(2, "abc", next)] = true
	}
	if len(met) != 9 || !met["ac"] || AnyWord(0, "abc", next) != "" {
		t.Errorf("AnyWord tells %v", met)
	}
}

// Words are said, and all of them come; none comes of what says none.
func TestSpoken(t *testing.T) {
	next := Chances()
	for text, want := range map[string]int{"": 1, "a": 1, "ab|c": 2, "a*": 4, "a+b?": 5, "a{2,}": 2, "a{2}b": 1, "(a|b){1,2}": 6, "(a|){2}": 3, "[^\\x00-\\xff]": 0, "a[^\\x00-\\xff]": 0, "[^\\x00-\\xff]?": 1, "abcd": 0, "(ab){2}": 0} {
		x, bad := parse.Text([]byte(text))
		if bad != (api.Bad{}) {
			t.Errorf("%q is told %v", text, bad)
			continue
		}
		said, met := Words(x, 3), map[string]bool{}
		for range 500 {
			w, ok := Spoken(x, 3, next)
			if ok && (len(w) > 3 || !said.Has(w)) || !ok && w != "" {
				t.Errorf("of %q Spoken tells %q, %t", text, w, ok)
			}
			if ok {
				met[w] = true
			}
		}
		if len(met) < want {
			t.Errorf("of %q %d words are spoken: %v", text, len(met), met)
		}
	}
	if w, ok := Spoken(None(), 9, next); ok || w != "" {
		t.Errorf("of KindNone %q is spoken", w)
	}
}

func TestExactly(t *testing.T) {
	next := Chances()
	for _, n := range []int{0, 1, 2, 999, 1000, 1001, 2345, 99999} {
		x := Exactly(n)
		if w, ok := Spoken(x, n, next); w != strings.Repeat("a", n) || !ok || !tree.Right(x) {
			t.Errorf("Exactly(%d) says a word of %d bytes, %t", n, len(w), ok)
		}
		if _, ok := Spoken(x, n-1, next); ok && n > 0 {
			t.Errorf("Exactly(%d) says a shorter word", n)
		}
	}
}

func TestGreatly(t *testing.T) {
	next := Chances()
	var l []api.Node
	great := 0
	for n := range 300 {
		x := Greatly(1+n%50, next)
		if !tree.Right(x) {
			t.Errorf("%v may not be", x)
		}
		if x.Lo > 500 {
			great++
		}
		l = append(l, x)
	}
	if great < 50 || tree.Size(Of(api.KindAlt, l...)) < 2000 {
		t.Errorf("%d numbers are great, and there are %d nodes", great, tree.Size(Of(api.KindAlt, l...)))
	}
}

func TestEvery(t *testing.T) {
	l := Every(5, []api.Node{Of(1), A()}, [2]int{7, 11}, [2]int{0, -1})
	// By hand: 5 nodes above each tree of one less, and two above each list of two or more.
	want := []int{0, 2, 10, 50 + 2*4, 290 + 2*(2*2*10+8), 5*386 + 2*(2*2*58+10*10+3*2*2*10+16)}
	for n, some := range l {
		met := map[string]bool{}
		for _, x := range some {
			holdSize(t, "Every", x, n)
			met[Dump([]api.Node{tree.Copy(x)})] = true
		}
		if len(some) != want[n] || len(met) != want[n] {
			t.Errorf("there are %d trees of %d nodes, %d of them different, want %d", len(some), n, len(met), want[n])
		}
	}
	if len(l) != 6 {
		t.Errorf("there are trees of up to %d nodes", len(l)-1)
	}
}

func TestSmallTrees(t *testing.T) {
	for _, some := range SmallTrees() {
		if len(some.Trees) < 500 || some.Most < 2 || len(some.Bytes) < 2 {
			t.Errorf("there are %d trees, for words of up to %d of %q", len(some.Trees), some.Most, some.Bytes)
		}
		for _, x := range some.Trees {
			if !tree.Right(x) {
				t.Errorf("%v may not be", x)
			}
		}
	}
}

func TestMayNot(t *testing.T) {
	for _, x := range MayNot() {
		if tree.Right(x) {
			t.Errorf("%v may be", x)
		}
	}
}

// Each place of several trees; and no fault is lost on the way.
func TestFaults(t *testing.T) {
	met, first := 0, 0
	for x := range Faults() {
		if tree.Right(x) {
			t.Errorf("%v may be", x)
		}
		if met++; len(x.Kids) == 0 {
			first++
		}
	}
	if places := 1 + 9; met < len(MayNot())*10*places || first < 20 {
		t.Errorf("there are %d trees, %d without Kids", met, first)
	}
	for range Faults() {
		break
	}
}

func TestTooGreat(t *testing.T) {
	exact := 0
	for _, x := range TooGreat() {
		if tree.Right(x) || tree.Size(x) <= 4096 {
			t.Errorf("a tree of %d nodes may be", tree.Size(x))
		}
		if tree.Size(x) == 4097 {
			exact++
		}
	}
	if exact < 10 {
		t.Errorf("%d trees have one node more than may be", exact)
	}
}

func TestWild(t *testing.T) {
	next := Chances()
	right := 0
	for range 3000 {
		if tree.Right(Wild(next)) {
			right++
		}
	}
	if right < 1000 || right > 2700 {
		t.Errorf("%d trees may be", right)
	}
}

func TestSpoilt(t *testing.T) {
	next := Chances()
	same, right := 0, 0
	for range 10000 {
		x := Grown(1+next(5), next)
		kept := Dump([]api.Node{x})
		y := Spoilt(x, next)
		if Dump([]api.Node{x}) != kept {
			t.Errorf("what was handed in became %v", x)
		}
		if tree.Same(x, y) {
			same++
		} else if tree.Right(y) {
			right++
		}
	}
	if same < 5000 || same > 8000 || right < 100 {
		t.Errorf("%d trees are the same, and %d others may be", same, right)
	}
}

func TestSized(t *testing.T) {
	for n := 3; n <= 261; n++ {
		if x := Sized(n); len(class.Show(x.Set)) != n || !tree.Right(x) {
			t.Errorf("Sized(%d) is written as %q", n, class.Show(x.Set))
		}
	}
}

func TestWithAndFilled(t *testing.T) {
	x := Of(4, A(), Of(6, Of(1)), B())
	for place, want := range []api.Node{C(), Of(4, C(), Of(6, Of(1)), B()), Of(4, A(), C(), B()), Of(4, A(), Of(6, C()), B()), Of(4, A(), Of(6, Of(1)), C())} {
		if got := With(x, place, C()); !tree.Same(got, want) {
			t.Errorf("With at %d is %v", place, got)
		}
	}
	if got := Filled(x); !tree.Same(got, Of(4, A(), Of(6, Of(3)), B())) {
		t.Errorf("Filled is %v", got)
	}
	if !tree.Same(x, Of(4, A(), Of(6, Of(1)), B())) {
		t.Errorf("what was handed in became %v", x)
	}
}

func TestWordy(t *testing.T) {
	next := Chances()
	deepest := 0
	for i := range 500 {
		deep := i % 12
		l := Wordy(i%60, deep, next)
		if len(l) < i%60 || Deepest(l) > deep {
			t.Errorf("Wordy of %d and %d has %d lexemes, and is %d deep", i%60, deep, len(l), Deepest(l))
		}
		if _, bad := parse.Lexemes(l); bad != (api.Bad{}) {
			t.Errorf("Wordy of %d and %d is told %v", i%60, deep, bad)
		}
		deepest = max(deepest, Deepest(l))
	}
	if deepest < 5 {
		t.Errorf("no brackets are more than %d deep", deepest)
	}
}

func TestMemory(t *testing.T) {
	x := Of(4, A(), Of(6, B()))
	l := Roomy([]api.Node{x})
	if len(l) != 1 || !tree.Same(l[0], x) || cap(l) == 1 || cap(l[0].Kids) == 2 {
		t.Errorf("Roomy is %v", l)
	}
	kept := Dump(l)
	if kept != Dump(Roomy([]api.Node{x})) || strings.Count(kept, "<") < 8 {
		t.Errorf("Dump is %s", kept)
	}
	l[0].Kids[:3][2].Lo++
	if Dump(l) == kept {
		t.Error("Dump does not tell what lies behind")
	}
	for _, text := range []string{"", "a", "\x00b"} {
		if w := RoomyText(text); string(w) != text || cap(w) < len(w)+9 {
			t.Errorf("RoomyText of %q is %q", text, w[:cap(w)])
		}
	}
	if Shared(x, l[0]) || !Shared(x, x) || !Shared(Of(4, x, x)) || !Shared(x, Of(6, x)) {
		t.Error("Shared")
	}
	Scribble(l)
	if Dump(l) == kept || l[0].Kind != 77 {
		t.Errorf("Scribble leaves %v", l)
	}
}

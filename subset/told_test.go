package subset

import (
	"slices"
	"strings"
	"testing"

	"doublet/api"
	"doublet/closure"
	"doublet/dfa"
	"doublet/match"
	"doublet/sample"
	"doublet/texts"
)

// tell: the label that a machine which may be tells of a word.
func tell(d api.Dfa, w string) int { return d.Label[sample.Behind(d, w)] }

// holdTold: what Of makes of a machine tells of words what the machine tells. It tells how often each label was told.
func holdTold(t *testing.T, n api.Nfa, d api.Dfa, words []string) map[int]int {
	t.Helper()
	m, wrong := closure.New(n)
	if wrong != api.OK || !dfa.Right(d) {
		t.Errorf("New tells %d of %s, and Of made %s", wrong, brief(n), single(d))
		return nil
	}
	met := map[int]int{}
	for i, w := range words {
		want := m.Tell([]byte(w))
		if met[want]++; tell(d, w) != want {
			t.Errorf("of %q Of tells %d, and the machine %d, %s", front(w), tell(d, w), want, brief(n))
		}
		if i%50 == 0 && dfa.Tell(d, []byte(w)) != want {
			t.Errorf("of %q Of tells %d, and the machine %d, %s", front(w), dfa.Tell(d, []byte(w)), want, brief(n))
		}
	}
	return met
}

// holdRulesTold: what Rules makes tells of words the name of the first rule that says it. It tells how often a rule did, and how often none.
func holdRulesTold(t *testing.T, l []api.Rule, d api.Dfa, words []string) (said, unsaid int) {
	t.Helper()
	if !dfa.Right(d) {
		t.Errorf("Rules of %s made %s", rules(l), single(d))
		return 0, 0
	}
	for _, w := range words {
		want := slices.IndexFunc(l, func(rule api.Rule) bool { return match.Full(rule.Body, []byte(w)) })
		if tell(d, w) != want+1 {
			t.Errorf("of %q Rules tells %d, and it is said by %d, of %s", front(w), tell(d, w), want+1, rules(l))
		}
		name := ""
		if want < 0 {
			unsaid++
		} else {
			said++
			name = l[want].Name
		}
		if (said+unsaid)%20 == 1 && dfa.Name(d, []byte(w)) != name {
			t.Errorf("of %q Rules tells %q, and it is said by %q, of %s", front(w), dfa.Name(d, []byte(w)), name, rules(l))
		}
	}
	return said, unsaid
}

// made: the machine of rules that have one, with room enough.
func made(t *testing.T, l []api.Rule) api.Dfa {
	t.Helper()
	d, wrong := Rules(l, most)
	if wrong != api.OK {
		t.Fatalf("Rules tells %d of %s", wrong, rules(l))
	}
	return d
}

// The chapter's example, those of the whole document, and others that are written out.
func TestP2105WrittenOut(t *testing.T) {
	for _, r := range []struct {
		rules [][2]string
		told  map[string]string
	}{
		{[][2]string{{"a", "x|xy"}, {"b", "xy"}}, map[string]string{"": "", "x": "a", "xy": "a", "xyx": "", "y": "", "xx": "", "z": ""}},
		{[][2]string{{"b", "xy"}, {"a", "x|xy"}}, map[string]string{"": "", "x": "a", "xy": "b", "xyx": "", "y": ""}},
		{[][2]string{{"if", "if"}, {"id", "[a-z]+"}}, map[string]string{"if": "if", "i": "id", "f": "id", "iff": "id", "iffy": "id", "": "", "if ": "", "IF": "", "fi": "id"}},
		{[][2]string{{"id", "[a-z]+"}, {"if", "if"}}, map[string]string{"if": "id", "i": "id", "iffy": "id", "": ""}},
		{[][2]string{{"if", "if"}, {"id", "[a-z]+"}, {"kw", "if"}}, map[string]string{"if": "if", "ifi": "id"}},
		{[][2]string{{"x", "a"}, {"y", "aab"}}, map[string]string{"a": "x", "aa": "", "aab": "y", "aac": "", "aabb": "", "c": ""}},
		{[][2]string{{"t", "a*"}}, map[string]string{"": "t", "a": "t", "aaaaaaaaaa": "t", "ab": "", "b": ""}},
		{[][2]string{{"t", "a+"}}, map[string]string{"": "", "a": "t", "aaaaaaaaaa": "t", "ab": ""}},
		{[][2]string{{"a", "(a|b)*a(a|b){3}"}}, map[string]string{"aaaa": "a", "abbb": "a", "babbb": "a", "bbbb": "", "abb": "", "babab": "a", "ababb": "", "abbbb": "", "aabbb": "a", "bbabbab": "", "bbbabab": "a"}},
		{[][2]string{{"num", "[0-9]+"}, {"hex", "0x[0-9a-f]+"}, {"dot", "[0-9]*\\.[0-9]+"}, {"ws", "[\\x20\\n]*"}}, map[string]string{"0": "num", "0x": "", "0xf0": "hex", "0.5": "dot", ".5": "dot", "5.": "", " \n ": "ws", "": "ws", "00x1": "", "123": "num"}},
		{[][2]string{{"e", ""}, {"all", "(.|\\n)*"}}, map[string]string{"": "e", "\x00": "all", "\xff\n\x00": "all", "any": "all"}},
		{[][2]string{{"dot", "."}, {"nl", "\\n"}}, map[string]string{"\n": "nl", "\x00": "dot", "\xff": "dot", "a": "dot", "aa": "", "": ""}},
		{[][2]string{{"none", texts.Nothing}, {"x", texts.Nothing + "|a"}}, map[string]string{"": "", "a": "x", "\x00": ""}},
		{[][2]string{{"three", "(aaa)*"}, {"two", "(aa)*"}}, map[string]string{"": "three", "a": "", "aa": "two", "aaa": "three", "aaaa": "two", "aaaaa": "", "aaaaaa": "three", "aaaaaaa": ""}},
		{[][2]string{{"c", `/\*([^*]|\*+[^*/])*\*+/`}}, map[string]string{"/**/": "c", "/* a */": "c", "/***/": "c", "/* * / */": "c", "/**/*/": "", "/*": "", "/*/": ""}},
	} {
		l := written(r.rules...)
		d := made(t, l)
		var words []string
		for w, want := range r.told {
			if got := dfa.Name(d, []byte(w)); got != want {
				t.Errorf("of %q is told %q, want %q, by %s", w, got, want, rules(l))
			}
			words = append(words, w)
		}
		holdRulesTold(t, l, d, words)
	}
	// Machines that no rules have.
	n := labelled(with(linked(4, 0, 2, 2, 0), edge(0, "a", 1), edge(2, "b", 3), edge(1, "b", 0), edge(3, "ab", 3)), 0, 2, 0, 1)
	d, _ := Of(n, called(2), most)
	for w, want := range map[string]int{"": 0, "a": 2, "b": 1, "ab": 0, "aba": 2, "ba": 1, "bbbb": 1, "abb": 1, "aa": 0, "c": 0, "abc": 0, "ababa": 2} {
		if tell(d, w) != want {
			t.Errorf("of %q is told %d, want %d", w, tell(d, w), want)
		}
		holdTold(t, n, d, []string{w})
	}
}

// All trees of up to three, four and five nodes, the greater ones of fewer leaves and numbers: alone, and some at once.
func TestP2105AllSmallTrees(t *testing.T) {
	t.Parallel()
	said, unsaid := 0, 0
	for i, some := range sample.SmallTrees() {
		words := sample.AllWords(some.Bytes, some.Most)
		for trees := range slices.Chunk(some.Trees, 1+i) {
			l := ruled(trees...)
			one, none := holdRulesTold(t, l, made(t, l), words)
			if said, unsaid = said+one, unsaid+none; t.Failed() {
				return
			}
		}
	}
	if min(said, unsaid) < 10000 {
		t.Errorf("%d words were said, %d were not", said, unsaid)
	}
}

// Random machines: all short words of one byte of each class, and random ones.
func TestP2105RandomMachines(t *testing.T) {
	t.Parallel()
	next := sample.Chances()
	met := map[int]int{}
	for range 1500 {
		n := anyNfa(1+next(14), next)
		d, wrong := Of(n, called(64), 3000)
		if wrong == api.ErrBig {
			continue
		}
		for label, times := range holdTold(t, n, d, sample.ClassWords(d, next)) {
			met[min(label, 2)] += times
		}
		if t.Failed() {
			return
		}
	}
	if min(met[0], met[1], met[2]) < 2000 {
		t.Errorf("so often there was no label, the first one, another one: %v", met)
	}
}

// Random rules: all short words, random ones, and such as they say.
func TestP2105RandomRules(t *testing.T) {
	t.Parallel()
	next := sample.Chances()
	said, unsaid := 0, 0
	for range 1200 {
		l := ruled(sample.SomeTrees(6, next)...)
		if weightOf(l) > 3000 {
			continue
		}
		d, wrong := Rules(l, 3000)
		if wrong == api.ErrBig {
			continue
		}
		words := sample.ClassWords(d, next)
		words = words[:min(len(words), 60)]
		for _, rule := range l {
			for range 6 {
				if w, ok := sample.Spoken(rule.Body, 40, next); ok {
					words = append(words, w, w+"a", w[:len(w)/2])
				}
			}
		}
		one, none := holdRulesTold(t, l, d, words)
		if said, unsaid = said+one, unsaid+none; t.Failed() {
			return
		}
	}
	if min(said, unsaid) < 10000 {
		t.Errorf("%d words were said, %d were not", said, unsaid)
	}
}

// Each kind within each other, as rules of which the first one says nothing, or all that the others say.
func TestP2105KindsWithinEachOther(t *testing.T) {
	t.Parallel()
	words := append(sample.AllWords("ab", 4), "c", "ac", "abc", "aaaaa", "ababab", "bbbbbb", "aaaaaaa")
	for i, x := range sample.Things() {
		for _, y := range sample.Above(x) {
			first := []api.Node{none(), of(4, x, hole()), y, x}[i%4]
			l := ruled(first, y, of(6, y), of(5, x, b()))
			if weightOf(l) < 3000 {
				holdRulesTold(t, l, made(t, l), words)
			}
		}
		if t.Failed() {
			return
		}
	}
}

// What is told may be: of random machines and rules, with few and many names.
func TestP2105MayBe(t *testing.T) {
	t.Parallel()
	next := sample.Chances()
	machines := 0
	for range 1500 {
		n := anyNfa(1+next(12), next)
		if d, wrong := Of(n, called(slices.Max(n.Accept)), 2000); wrong == api.OK {
			if machines++; !dfa.Right(d) || len(dfa.Reach(d)) != len(d.Label) || !slices.IsSorted(dfa.Reach(d)) {
				t.Errorf("Of %s is %s", brief(n), single(d))
			}
		}
	}
	if machines < 500 {
		t.Errorf("there are only %d machines", machines)
	}
}

// Long words, through machines with rings and with many subsets.
func TestP2105LongWords(t *testing.T) {
	t.Parallel()
	l := written([2]string{"last", "(a|b)*a(a|b){9}"}, [2]string{"odd", "b(bb)*|a(a|b)*b"}, [2]string{"three", "((a|b){3})*"})
	d := made(t, l)
	_, bodies := parted(l)
	n := ofTrees(t, bodies...)
	next := sample.Chances()
	var words []string
	for range 100 {
		words = append(words, sample.AnyWord(next(3000), "ab", next), strings.Repeat("b", next(300)))
	}
	met := holdTold(t, n, d, words)
	if len(met) != 4 || min(met[0], met[1], met[2], met[3]) < 5 {
		t.Errorf("so often there were the labels %v", met)
	}
}

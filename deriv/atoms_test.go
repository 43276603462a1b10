package deriv

import (
	"slices"
	"strings"
	"testing"

	"doublet/api"
	"doublet/sample"
	"doublet/sets"
	"doublet/tree"
)

// set: the set of a text's bytes.
func set(text string) api.Set { return sets.Of([]byte(text)...) }

// others: the set of all bytes but a text's.
func others(text string) api.Set { return sets.Not(set(text)) }

// modelAtoms: bytes by the leaves in which they are, one by one.
func modelAtoms(x api.Node) []api.Set {
	if !tree.Right(x) {
		return nil
	}
	leaves := tree.Leaves(x)
	at := map[string]int{}
	var l []api.Set
	for n := range 256 {
		var in strings.Builder
		for _, s := range leaves {
			in.WriteByte("01"[len(sets.Bytes(sets.Meet(s, sets.Of(byte(n)))))])
		}
		place, known := at[in.String()]
		if !known {
			place = len(l)
			at[in.String()] = place
			l = append(l, api.Set{})
		}
		l[place] = sets.Union(l[place], sets.Of(byte(n)))
	}
	return l
}

// holdModelAtoms: the Atoms of a tree that may be, by the model; they have all bytes, each once, and rise.
func holdModelAtoms(t *testing.T, x api.Node) {
	t.Helper()
	holdAtoms(t, x, modelAtoms(x)...)
	var all api.Set
	count, last := 0, -1
	for _, s := range Atoms(x) {
		if sets.Least(s) <= last {
			t.Errorf("Atoms(%s) = %v do not rise", brief(x), shown(Atoms(x)))
		}
		all, count, last = sets.Union(all, s), count+sets.Count(s), sets.Least(s)
	}
	if all != sets.All() || count != 256 {
		t.Errorf("Atoms(%s) = %v have %d bytes", brief(x), shown(Atoms(x)), count)
	}
}

func TestP1304WrittenOut(t *testing.T) {
	// Without a KindSet.
	for _, x := range []api.Node{none(), e(), of(4, e(), e()), of(5, none(), e()), of(6, e()), times(none(), 2, 3), of(8, of(7, e()))} {
		holdAtoms(t, x, sets.All())
	}
	// With one.
	for _, x := range []api.Node{b(), of(6, b()), of(4, e(), b()), times(b(), 3, -1), of(5, b(), none())} {
		holdAtoms(t, x, others("b"), set("b"))
	}
	holdAtoms(t, hole(), sets.All())
	holdAtoms(t, ofSet(sets.All()), sets.All())
	holdAtoms(t, of(4, hole(), ofSet(sets.All()), hole()), sets.All())
	holdAtoms(t, ofSet(sets.Of(0)), sets.Of(0), sets.Span(1, 255))
	holdAtoms(t, ofSet(sets.Of(255)), sets.Span(0, 254), sets.Of(255))
	holdAtoms(t, ofSet(sets.Not(sets.Of(0))), sets.Of(0), sets.Span(1, 255))
	holdAtoms(t, ofSet(sets.Of(0, 255)), sets.Of(0, 255), sets.Span(1, 254))
	for _, r := range []struct {
		text  string
		atoms []api.Set
	}{
		// Apart.
		{"ab", []api.Set{others("ab"), set("a"), set("b")}}, {"ba", []api.Set{others("ab"), set("a"), set("b")}}, {"[c-e]|[xz]*|y", []api.Set{others("cdexyz"), set("cde"), set("xz"), set("y")}}, {"zyx", []api.Set{others("xyz"), set("x"), set("y"), set("z")}},
		// Within each other.
		{"[a-f][b-d]c", []api.Set{others("abcdef"), set("aef"), set("bd"), set("c")}}, {"c[b-d][a-f]", []api.Set{others("abcdef"), set("aef"), set("bd"), set("c")}}, {".a", []api.Set{others("\na"), set("\n"), set("a")}}, {`[\x00-\xff]a`, []api.Set{others("a"), set("a")}},
		// In part in each other.
		{"[a-d][c-f]", []api.Set{others("abcdef"), set("ab"), set("cd"), set("ef")}}, {"[a-c]x|b*", []api.Set{others("abcx"), set("ac"), set("b"), set("x")}}, {"[ab][bc][ac]", []api.Set{others("abc"), set("a"), set("b"), set("c")}}, {"[^a][^b]", []api.Set{others("ab"), set("a"), set("b")}}, {"[abc]*[bcd]+[cde]?", []api.Set{others("abcde"), set("a"), set("b"), set("c"), set("d"), set("e")}},
		// The same.
		{"aaa|a*", []api.Set{others("a"), set("a")}}, {"[ab][ab]", []api.Set{others("ab"), set("ab")}}, {"a[^a]", []api.Set{others("a"), set("a")}}, {"[ab]|[^ab]|[ab]", []api.Set{others("ab"), set("ab")}},
		{`[\x00-\x7f][\x40-\xbf]`, []api.Set{sets.Span(0, 63), sets.Span(64, 127), sets.Span(128, 191), sets.Span(192, 255)}}, {`[\x01-\xff]`, []api.Set{sets.Of(0), sets.Span(1, 255)}},
		// Nothing of the tree is left out, nor put together, as it would be in the simple one.
		{"a|b", []api.Set{others("ab"), set("a"), set("b")}}, {"a{0}|b", []api.Set{others("ab"), set("a"), set("b")}}, {"a" + nothing + "|b", []api.Set{others("ab"), set("a"), set("b")}}, {"(a{0})*", []api.Set{others("a"), set("a")}}, {"[ab]|a", []api.Set{others("ab"), set("a"), set("b")}},
	} {
		holdAtoms(t, read(r.text), r.atoms...)
		holdModelAtoms(t, read(r.text))
	}
	// Each byte apart, and all in pairs.
	var each, pairs []api.Node
	var alone, two []api.Set
	for n := range 256 {
		each = append([]api.Node{leaf(byte(n))}, each...)
		alone = append(alone, sets.Of(byte(n)))
		if n < 128 {
			pairs = append(pairs, leaf(byte(n), byte(n+128)))
			two = append(two, sets.Of(byte(n), byte(n+128)))
		}
	}
	holdAtoms(t, of(4, each...), alone...)
	holdAtoms(t, of(5, each[1:]...), alone...)
	holdAtoms(t, of(5, pairs...), two...)
	// By eight halves each byte is apart.
	var halves []api.Node
	for bit := range 8 {
		var s api.Set
		for n := range 256 {
			if n>>bit&1 == 1 {
				s = sets.Union(s, sets.Of(byte(n)))
			}
		}
		halves = append(halves, ofSet(s))
	}
	holdAtoms(t, of(4, halves...), alone...)
}

func TestP1304Trees(t *testing.T) {
	t.Parallel()
	next := sample.Chances()
	for _, x := range append(sample.Around(), kindsWithin()...) {
		holdModelAtoms(t, x)
	}
	for _, x := range slices.Concat(sample.Every(3, []api.Node{none(), e(), hole(), a(), leaf('a', 'c'), ofSet(sets.All())}, [2]int{0, 0}, [2]int{2, 3})...) {
		holdModelAtoms(t, x)
	}
	most := 0
	for i := range 1500 {
		x := sample.Grown(1+i%80, next)
		if i%3 == 0 {
			x = sample.Small(1+i%40, next)
		}
		holdModelAtoms(t, x)
		most = max(most, len(Atoms(x)))
	}
	if most < 15 {
		t.Errorf("no tree has more than %d atoms", most)
	}
	for _, x := range []api.Node{sample.Grown(4096, next), sample.Small(4096, next), sample.Chain(4096), sample.Beside(4, 4096, leaf('a', 'b')), sample.Beside(5, 4096, hole())} {
		holdModelAtoms(t, x)
	}
}

// A tree that may not be has none; P1303's tests ask that of each fault.
func TestP1304MayNotBe(t *testing.T) {
	for _, x := range append(sample.MayNot(), sample.TooGreat()...) {
		if l := Atoms(x); len(l) > 0 {
			t.Errorf("Atoms(%s) = %v", brief(x), shown(l))
		}
		if l := Atoms(of(4, a(), of(6, x))); len(l) > 0 {
			t.Errorf("Atoms of %s deep within are %v", brief(x), shown(l))
		}
	}
}

// holdOneTree: behind all bytes of an atom one tree stands; how many trees there are.
func holdOneTree(t *testing.T, x api.Node) int {
	t.Helper()
	met := 0
	for _, s := range Atoms(x) {
		l := sets.Bytes(s)
		first, wrong := By(x, l[0])
		if met++; wrong != api.OK {
			met--
		}
		for _, one := range l[1:] {
			if y, other := By(x, one); other != wrong || !tree.Same(y, first) {
				t.Errorf("of %s stands %s (%d) behind %q, and %s (%d) behind %q", brief(x), brief(first), wrong, l[0], brief(y), other, one)
			}
		}
	}
	return met
}

func TestP1306Atoms(t *testing.T) {
	t.Parallel()
	next := sample.Chances()
	for _, x := range append(sample.Around(), kindsWithin()...) {
		holdOneTree(t, x)
	}
	met := 0
	for i := range 600 {
		x := sample.Grown(1+next(40), next)
		if i%4 == 0 {
			x = sample.Small(1+next(30), next)
		}
		met += holdOneTree(t, x)
		// So it is with what stands behind a word, by the atoms of the whole.
		w, _ := spoken(x, 4, next)
		y, wrong := Word(x, []byte(w))
		if wrong != api.OK {
			continue
		}
		for _, s := range Atoms(x) {
			l := sets.Bytes(s)
			one, first := By(y, l[0])
			other, last := By(y, l[len(l)-1])
			if first != last || !tree.Same(one, other) {
				t.Errorf("of %s stands %s behind %q and %q, and %s behind %q", brief(x), brief(one), w, l[0], brief(other), l[len(l)-1])
			}
		}
		if t.Failed() {
			return
		}
	}
	if met < 2000 {
		t.Errorf("there were %d atoms", met)
	}
	// Where there is no room.
	big := of(4, of(6, ahead(2047)), of(8, leaf('a', 'x', 'y')), leaf('x', 'y'))
	if holdOneTree(t, big) >= len(Atoms(big)) {
		t.Error("there is room behind all bytes")
	}
}

package match

import (
	"testing"

	"doublet/api"
	"doublet/sample"
)

// Trees of as many nodes as may be, that repeat in one another, and the longest words: without what is kept none of these calls would end.
func TestP1101RepeatedWithinOneAnother(t *testing.T) {
	t.Parallel()
	w := many(256, "a")
	all, some := upTo(0, 256, 1), upTo(1, 256, 1)
	holdPlaces(t, sample.Chain(4096), w, 0, all...)
	holdPlaces(t, within(4096, a(), func(x api.Node) api.Node { return of(6, x) }), w, 0, all...)
	holdPlaces(t, within(4096, a(), func(x api.Node) api.Node { return of(7, x) }), w, 0, some...)
	holdPlaces(t, within(4096, a(), func(x api.Node) api.Node { return of(8, x) }), w, 0, 0, 1)
	holdPlaces(t, within(4096, a(), func(x api.Node) api.Node { return rep(x, 0, 1000) }), w, 0, all...)
	holdPlaces(t, within(4096, a(), func(x api.Node) api.Node { return rep(x, 1, 2) }), w, 0, some...)
	holdPlaces(t, within(4096, a(), func(x api.Node) api.Node { return rep(x, 1000, 1000) }), w, 0)
	holdPlaces(t, within(4096, a(), func(x api.Node) api.Node { return rep(x, 2, -1) }), w, 0)
	holdPlaces(t, within(4095, of(8, a()), func(x api.Node) api.Node { return rep(x, 1000, 1000) }), w, 0, all...)
	holdPlaces(t, within(4095, of(8, a()), func(x api.Node) api.Node { return rep(x, 3, 5) }), w, 200, upTo(200, 256, 1)...)
	holdPlaces(t, within(4096, e(), func(x api.Node) api.Node { return rep(x, 1000, -1) }), w, 0, 0)
	holdPlaces(t, within(4096, none(), func(x api.Node) api.Node { return of(7, x) }), w, 0)
	holdPlaces(t, within(4096, none(), func(x api.Node) api.Node { return of(6, x) }), w, 7, 7)
	// Each byte but the last one is met; and it is not.
	holdPlaces(t, of(4, within(4000, a(), func(x api.Node) api.Node { return of(7, x) }), b()), w, 0)
	if x := of(4, within(4000, a(), func(x api.Node) api.Node { return of(6, x) }), b()); !Full(x, []byte(many(255, "a")+"b")) {
		t.Error("Full of stars in one another")
	}
	if x := of(4, within(4000, a(), func(x api.Node) api.Node { return rep(x, 2, 1000) }), b()); Longest(x, []byte(w), 0) != -1 {
		t.Error("Longest of times in one another")
	}
}

// Times within times, which go up as products do.
func TestP1101TimesWithinTimes(t *testing.T) {
	w := many(256, "a")
	for depth := 1; depth <= 12; depth++ {
		twice := within(depth+1, a(), func(x api.Node) api.Node { return rep(x, 2, 2) })
		holdEnds(t, twice, w, 0, where(1<<depth <= 256, 1<<depth)...)
		holdEnds(t, within(depth+1, a(), func(x api.Node) api.Node { return rep(x, 2, -1) }), w, 0, upTo(1<<depth, 256, 1)...)
		n := 1
		for range depth {
			n = min(256, 3*n)
		}
		holdEnds(t, within(depth+1, a(), func(x api.Node) api.Node { return rep(x, 2, 3) }), w, 0, upTo(1<<depth, n, 1)...)
		holdEnds(t, within(depth+1, of(8, a()), func(x api.Node) api.Node { return rep(x, 2, 3) }), w, 0, upTo(0, n, 1)...)
		holdEnds(t, within(depth+1, a(), func(x api.Node) api.Node { return rep(x, 1000, 1000) }), w, 0)
		holdEnds(t, within(depth+1, of(5, a(), e()), func(x api.Node) api.Node { return rep(x, 1000, 1000) }), w, 0, upTo(0, 256, 1)...)
		holdEnds(t, of(6, twice), w, 0, upTo(0, 256, 1<<depth)...)
	}
}

// Rows and choices of many Kids, and many within one another.
func TestP1101WideAndDeep(t *testing.T) {
	t.Parallel()
	w := many(256, "a")
	all := upTo(0, 256, 1)
	holdPlaces(t, sample.Beside(4, 2048, of(6, a())), w, 0, all...)
	holdPlaces(t, sample.Beside(4, 2048, of(8, a())), w, 0, all...)
	holdPlaces(t, sample.Beside(4, 2048, of(7, a())), w, 0)
	holdPlaces(t, sample.Beside(4, 4096, a()), w, 0)
	holdPlaces(t, sample.Beside(4, 257, a()), w, 0, 256)
	holdPlaces(t, sample.Beside(4, 256, a()), w, 0, 255)
	holdPlaces(t, sample.Beside(4, 256, a()), w, 1, 256)
	holdPlaces(t, sample.Beside(4, 4096, e()), w, 99, 99)
	holdPlaces(t, sample.Beside(5, 4096, a()), w, 99, 100)
	holdPlaces(t, sample.Beside(5, 2048, of(6, a())), w, 0, all...)
	holdPlaces(t, of(6, sample.Beside(5, 500, rep(a(), 2, 100))), w, 0, append([]int{0}, upTo(2, 256, 1)...)...)
	holdPlaces(t, sample.Nested(4, 255, true), "a"+many(255, "b"), 0, 256)
	holdPlaces(t, sample.Nested(4, 255, false), many(255, "b")+"a", 0, 256)
	holdPlaces(t, sample.Nested(4, 2047, true), "a"+many(255, "b"), 0)
	holdPlaces(t, sample.Nested(5, 2047, true), "ba", 0, 1)
	holdPlaces(t, sample.Nested(5, 2047, false), "ba", 1, 2)
	holdPlaces(t, within(1300, a(), func(x api.Node) api.Node { return of(4, of(6, a()), x) }), w, 0, upTo(1, 256, 1)...)
	holdPlaces(t, within(1000, of(6, a()), func(x api.Node) api.Node { return of(6, of(4, x, of(6, b()))) }), many(128, "ab"), 0, all...)
	holdPlaces(t, within(1000, of(6, a()), func(x api.Node) api.Node { return of(4, of(7, x), of(8, a())) }), w, 0, all...)
	// Each kid is one word of its own.
	var l []api.Node
	for n := range 200 {
		l = append(l, rep(a(), n, n))
	}
	holdPlaces(t, of(5, l...), w, 0, upTo(0, 199, 1)...)
	holdPlaces(t, of(5, l...), w, 156, upTo(156, 256, 1)...)
}

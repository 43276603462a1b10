package parts

import (
	"testing"

	"doublet/api"
	"doublet/sets"
)

func TestP1903WrittenOut(t *testing.T) {
	all := sets.All()
	for _, n := range []int{0, 1, 128, 255} {
		holdLists(t, by(func(int) int { return n }), list(all), "\x00")
	}
	first, last := sets.Of(0), sets.Of(255)
	for _, n := range [][2]int{{0, 1}, {1, 0}, {255, 0}, {7, 200}} {
		holdLists(t, by(func(b int) int { return n[min(b, 1)] }), list(first, sets.Not(first)), "\x00\x01")
		holdLists(t, by(func(b int) int { return n[b/255] }), list(sets.Not(last), last), "\x00\xff")
		holdLists(t, by(func(b int) int { return n[b%2] }), list(sets.Not(halves()[0]), halves()[0]), "\x00\x01")
		holdLists(t, by(func(b int) int { return n[b/64%2] }), list(sets.Union(span(0, 63), span(128, 191)), sets.Union(span(64, 127), span(192, 255))), "\x00\x40")
	}
	// The numbers fall, and the least bytes rise all the same.
	holdLists(t, by(func(b int) int { return 3 - b/64 }), list(span(0, 63), span(64, 127), span(128, 191), span(192, 255)), "\x00\x40\x80\xc0")
	of := by(func(int) int { return 100 })
	of['x'], of['a'], of['b'], of['m'], of['z'] = 0, 255, 3, 255, 2
	holdLists(t, of, list(others("abmxz"), set("am"), set("b"), set("x"), set("z")), "\x00abxz")
	of[0] = 1
	holdLists(t, of, list(first, others("abmxz\x00"), set("am"), set("b"), set("x"), set("z")), "\x00\x01abxz")
	of[0] = 255
	holdLists(t, of, list(set("am\x00"), others("abmxz\x00"), set("b"), set("x"), set("z")), "\x00\x01bxz")
}

// As many as there are, up to 256, whatever the numbers are.
func TestP1903OtherNumbers(t *testing.T) {
	for _, r := range normals() {
		want, leasts := modelSets(r.of), modelLeasts(r.of)
		if len(want) != r.width || len(leasts) != r.width {
			t.Fatalf("of %s the model tells %d classes, and %d bytes", shown(r.of), len(want), len(leasts))
		}
		for _, turn := range turns() {
			holdLists(t, turned(r.of, turn), want, leasts)
		}
	}
	var bytes []byte
	for b := range 256 {
		bytes = append(bytes, byte(b))
	}
	holdLists(t, by(func(b int) int { return b }), singles(), string(bytes))
	holdLists(t, by(func(b int) int { return 255 - b }), singles(), string(bytes))
	holdLists(t, by(func(b int) int { return max(b, 1) }), append(list(sets.Of(0, 1)), singles()[2:]...), "\x00"+string(bytes[2:]))
}

// holdParted: each byte is in just one of Sets, and each of these has some, of one number; their least bytes are Leasts.
func holdParted(t *testing.T, of classes) {
	t.Helper()
	l, leasts := Sets(of), Leasts(of)
	met := 0
	var all api.Set
	for i, s := range l {
		members := sets.Bytes(s)
		met, all = met+len(members), sets.Union(all, s)
		for _, b := range members {
			if of[b] != of[members[0]] {
				t.Errorf("of %s Sets has %d and %d in one", shown(of), members[0], b)
			}
		}
		if len(members) == 0 || i >= len(leasts) || leasts[i] != members[0] {
			t.Errorf("of %s Leasts is %v, and the set %d of Sets is %v", shown(of), leasts, i, members)
		}
		if i > 0 && len(members) > 0 && leasts[i-1] >= members[0] {
			t.Errorf("of %s Leasts do not rise: %v", shown(of), leasts)
		}
	}
	if met != 256 || all != sets.All() || len(leasts) != len(l) {
		t.Errorf("of %s %d sets have %d bytes, and there are %d least ones", shown(of), len(l), met, len(leasts))
	}
}

// All classes of a few bytes.
func TestP1903FewBytes(t *testing.T) {
	t.Parallel()
	few := []byte{0, 1, 64, 254, 255}
	for code := range 4 * 4 * 4 * 4 * 4 {
		of := by(func(int) int { return 2 })
		for _, b := range few {
			of[b] = []uint8{0, 2, 3, 255}[code%4]
			code /= 4
		}
		holdLists(t, of, modelSets(of), modelLeasts(of))
		holdParted(t, of)
	}
	for _, r := range normals() {
		holdParted(t, r.of)
	}
}

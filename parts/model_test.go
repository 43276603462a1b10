package parts

import (
	"slices"
	"testing"

	"doublet/api"
	"doublet/sample"
)

// in: is a byte in a set, as package api says what one is?
func in(s api.Set, b int) bool { return s[b/64]&(1<<(b%64)) != 0 }

// modelled: the classes of bytes that are together, numbered from 0 on by their least bytes, and how many there are.
func modelled(together func(x, y int) bool) (classes, int) {
	var of classes
	width := 0
	for b := range 256 {
		first := 0
		for !together(first, b) {
			first++
		}
		of[b] = of[first]
		if first == b {
			of[b] = uint8(width)
			width++
		}
	}
	return of, width
}

func modelOf(l []api.Set) (classes, int) {
	return modelled(func(x, y int) bool {
		for _, s := range l {
			if in(s, x) != in(s, y) {
				return false
			}
		}
		return true
	})
}

func modelNorm(of classes) (classes, int) {
	return modelled(func(x, y int) bool { return of[x] == of[y] })
}

func modelJoin(a, b classes) (classes, int) {
	return modelled(func(x, y int) bool { return a[x] == a[y] && b[x] == b[y] })
}

// modelRight: a number that is new is the least one that was not met.
func modelRight(of classes, width int) bool {
	met := 0
	for _, n := range of {
		if int(n) > met {
			return false
		}
		met = max(met, int(n)+1)
	}
	return met == width
}

// modelLeasts: the bytes ahead of which none has the same number.
func modelLeasts(of classes) string {
	var l []byte
	for b := range 256 {
		if !slices.Contains(of[:b], of[b]) {
			l = append(l, byte(b))
		}
	}
	return string(l)
}

// modelSets: for each of these the bytes that have its number.
func modelSets(of classes) []api.Set {
	var l []api.Set
	for _, first := range []byte(modelLeasts(of)) {
		var s api.Set
		for b := range 256 {
			if of[b] == of[first] {
				s[b/64] |= 1 << (b % 64)
			}
		}
		l = append(l, s)
	}
	return l
}

// holdModelled: of classes each call tells what the model does.
func holdModelled(t *testing.T, of classes) int {
	t.Helper()
	want, width := modelNorm(of)
	holdNorm(t, of, want, width)
	holdLists(t, of, modelSets(of), modelLeasts(of))
	for _, n := range []int{width, width - 1, width + 1, 0, 256} {
		holdRight(t, of, n, modelRight(of, n))
	}
	holdRight(t, want, width, true)
	return width
}

// anySets: fewer than most sets; some of few bytes, some of very many.
func anySets(most int, next func(most int) int) []api.Set {
	var l []api.Set
	for range next(most) {
		s := sample.AnySet(next)
		if next(3) == 0 {
			for i := range s {
				s[i] = uint64(next(1 << 62))
			}
		}
		if len(l) > 0 && next(6) == 0 {
			s = l[next(len(l))]
		}
		l = append(l, s)
	}
	return l
}

// anyClasses: classes, with whatever numbers: few, many, all, such as rise, and such as nearly do.
func anyClasses(next func(most int) int) classes {
	most := []int{1, 2, 3, 16, 100, 256}[next(6)]
	from, step := next(256), 1+2*next(128)
	of := by(func(b int) int { return from + step*next(most) })
	switch next(5) {
	case 0:
		of, _ = modelNorm(of)
	case 1:
		of, _ = modelNorm(of)
		of[next(256)] = uint8(next(256))
	case 2:
		width := 1 + next(256)
		of = by(func(b int) int { return b * width / 256 })
	case 3:
		of = by(func(b int) int { return from + step*b })
		for range next(3) {
			of[next(256)] = of[next(256)]
		}
	}
	return of
}

// Random classes: each call but Of.
func TestModelledClasses(t *testing.T) {
	t.Parallel()
	next := sample.Chances()
	normal, wide := 0, map[int]int{}
	for range 6000 {
		of := anyClasses(next)
		width := holdModelled(t, of)
		if modelRight(of, width) {
			normal++
		}
		wide[width]++
		if t.Failed() {
			return
		}
	}
	if normal < 1500 || normal > 4500 || len(wide) < 150 || min(wide[1], wide[254], wide[255], wide[256]) < 100 {
		t.Errorf("%d of the classes were normal; of each width there were %v", normal, wide)
	}
}

// Random pairs of them.
func TestModelledJoin(t *testing.T) {
	t.Parallel()
	next := sample.Chances()
	wide := map[int]int{}
	for range 4000 {
		a, b := anyClasses(next), anyClasses(next)
		want, width := modelJoin(a, b)
		holdJoin(t, a, b, want, width)
		wide[width]++
		if t.Failed() {
			return
		}
	}
	if len(wide) < 150 || wide[256] < 100 {
		t.Errorf("of each width there were %v", wide)
	}
}

// Random sets.
func TestModelledSets(t *testing.T) {
	t.Parallel()
	next := sample.Chances()
	wide := map[int]int{}
	hold := func(l []api.Set) {
		t.Helper()
		want, width := modelOf(l)
		got, n := Of(l)
		holdClasses(t, got, n, want, width, "Of(%s)", shownSets(l))
		wide[width]++
	}
	for i := range 6000 {
		hold(anySets([]int{2, 3, 5, 12}[i%4], next))
		if t.Failed() {
			return
		}
	}
	for range 100 {
		hold(anySets(300, next))
	}
	if len(wide) < 60 {
		t.Errorf("of each width there were %v", wide)
	}
}

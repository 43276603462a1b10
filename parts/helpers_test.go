package parts

import (
	"bytes"
	"fmt"
	"math"
	"slices"
	"strconv"
	"strings"
	"testing"

	"doublet/api"
	"doublet/class"
	"doublet/sets"
	"doublet/texts"
)

const (
	greatest = math.MaxInt
	least    = math.MinInt
)

// classes: a number for each byte.
type classes = [256]uint8

// by: the classes in which each byte has the number that it is told.
func by(number func(b int) int) classes {
	var of classes
	for b := range 256 {
		of[b] = uint8(number(b))
	}
	return of
}

// numbers: the classes that these sets are, numbered from 0 on in their order; each byte is in just one of them.
func numbers(l ...api.Set) classes {
	return by(func(b int) int {
		place := slices.IndexFunc(l, func(s api.Set) bool { return in(s, b) })
		if place < 0 || slices.ContainsFunc(l[place+1:], func(s api.Set) bool { return in(s, b) }) {
			panic("a test has wrong classes: " + shownSets(l))
		}
		return place
	})
}

// starting: the classes in which the first bytes have these numbers, and all others the last one of them.
func starting(l ...int) classes {
	return by(func(b int) int { return l[min(b, len(l)-1)] })
}

// turned: the same classes with other numbers, if no two become one.
func turned(of classes, turn func(n uint8) uint8) classes {
	return by(func(b int) int { return int(turn(of[b])) })
}

// set: the set of a text's bytes; others: that of all other bytes; span: that of all from one to another one.
func set(text string) api.Set     { return sets.Of([]byte(text)...) }
func others(text string) api.Set  { return sets.Not(set(text)) }
func span(lo, hi byte) api.Set    { return sets.Span(lo, hi) }
func list(l ...api.Set) []api.Set { return l }

// halves: eight sets that tell each byte from each other one: by the first bit, the second one, and so on.
func halves() []api.Set {
	l := make([]api.Set, 8)
	for b := range 256 {
		for bit := range 8 {
			if b>>bit&1 == 1 {
				l[bit] = sets.Union(l[bit], sets.Of(byte(b)))
			}
		}
	}
	return l
}

// singles: the 256 sets of one byte each, rising.
func singles() []api.Set {
	var l []api.Set
	for b := range 256 {
		l = append(l, sets.Of(byte(b)))
	}
	return l
}

// shown: the front of classes, as a text.
func shown(of classes) string { return texts.Front(texts.Classes(of)) }

// shownSets: how many sets there are, and the front of them.
func shownSets(l []api.Set) string {
	var pieces []string
	for _, s := range l[:min(len(l), 20)] {
		pieces = append(pieces, class.Show(s))
	}
	return strconv.Itoa(len(l)) + " sets, " + texts.Front(strings.Join(pieces, " "))
}

// holdClasses: a call tells just these classes, and this width.
func holdClasses(t *testing.T, got classes, n int, want classes, width int, what string, about ...any) {
	t.Helper()
	if got != want || n != width {
		t.Errorf("%s is %s, and %d, want %s, and %d", fmt.Sprintf(what, about...), shown(got), n, shown(want), width)
	}
}

// holdOf: of sets Of tells just these classes.
func holdOf(t *testing.T, l []api.Set, want ...api.Set) {
	t.Helper()
	got, n := Of(l)
	holdClasses(t, got, n, numbers(want...), len(want), "Of(%s)", shownSets(l))
}

// holdNorm: of classes Norm tells just these ones, and of these themselves.
func holdNorm(t *testing.T, of, want classes, width int) {
	t.Helper()
	got, n := Norm(of)
	holdClasses(t, got, n, want, width, "Norm(%s)", shown(of))
	again, n := Norm(got)
	holdClasses(t, again, n, want, width, "Norm, twice, of %s", shown(of))
}

// holdRight: whether classes are right, with a width.
func holdRight(t *testing.T, of classes, width int, want bool) {
	t.Helper()
	if got := Right(of, width); got != want {
		t.Errorf("Right(%s, %d) is %t", shown(of), width, got)
	}
}

// holdJoin: of two classes Join tells just these, whichever of both comes first.
func holdJoin(t *testing.T, a, b, want classes, width int) {
	t.Helper()
	got, n := Join(a, b)
	holdClasses(t, got, n, want, width, "Join(%s, %s)", shown(a), shown(b))
	got, n = Join(b, a)
	holdClasses(t, got, n, want, width, "Join(%s, %s)", shown(b), shown(a))
}

// holdLists: of classes Sets tells just these ones, and Leasts their least bytes.
func holdLists(t *testing.T, of classes, want []api.Set, leasts string) {
	t.Helper()
	if got := Sets(of); !slices.Equal(got, want) {
		t.Errorf("Sets(%s) is %s, want %s", shown(of), shownSets(got), shownSets(want))
	}
	if got := Leasts(of); !bytes.Equal(got, []byte(leasts)) {
		t.Errorf("Leasts(%s) is %v, want %v", shown(of), got, []byte(leasts))
	}
}

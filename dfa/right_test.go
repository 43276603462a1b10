package dfa

import (
	"slices"
	"strings"
	"testing"

	"doublet/api"
	"doublet/sample"
)

// Machines that may be: of one state to the most, of one class to 256, of no name to the most.
func TestP2002RightMayBe(t *testing.T) {
	t.Parallel()
	for _, states := range []int{1, 2, 3, 7, 64, 65, 255, 256, 257, 1000, most - 1, most} {
		for _, width := range []int{1, 2, 3, 255, 256} {
			if states*width > 1<<18 {
				// Great ones are held elsewhere.
				continue
			}
			holdRight(t, quiet(states, width), true, "without names,")
			for _, names := range []int{0, 1, 2, 63, 64} {
				d := leading(states, width, names)
				holdRight(t, d, true, "with %d names,", names)
				// No state has a label; or each has the last one.
				d.Label = make([]int, states)
				holdRight(t, d, true, "with %d names, without labels,", names)
				d.Label = slices.Repeat([]int{names}, states)
				holdRight(t, d, true, "with %d names, with the last label,", names)
			}
		}
	}
	// Lists without elements mean the same as none; rows may lie in the same memory.
	d := quiet(5, 2)
	d.Names = []string{}
	holdRight(t, d, true, "with an empty list of names,")
	d.Next = slices.Repeat([][]int{{3, 4}}, 5)
	holdRight(t, d, true, "with five times the same row,")
}

// Each fault alone.
func TestP2002RightFaults(t *testing.T) {
	t.Parallel()
	met := map[string]int{}
	sample.EachWrongDfa(func(fault string, d api.Dfa) {
		met[fault]++
		holdRight(t, d, false, "with the fault %s,", fault)
	})
	for _, fault := range []string{"states", "classes", "width", "row", "rows", "behind", "label", "labels", "name", "names twice", "many names"} {
		if met[fault] < 5 {
			t.Errorf("so often each fault is met: %v", met)
		}
	}
}

// One state more than may be, and one less, of one class and of several.
func TestP2002RightMaxStates(t *testing.T) {
	t.Parallel()
	for _, width := range []int{1, 4} {
		for states, want := range map[int]bool{0: false, 1: true, 65535: true, 65536: true, 65537: false, 65538: false, 1 << 18: false} {
			holdRight(t, quiet(states, width), want, "of %d states,", states)
			holdRight(t, leading(max(states, 1), width, 3), want || states == 0, "of %d states,", states)
		}
	}
}

// Classes of one byte with each number, and each Width about how many there are; each row has so many states.
func TestP2002RightClasses(t *testing.T) {
	t.Parallel()
	next := sample.Chances()
	hold := func(of [256]uint8, width int) {
		t.Helper()
		d := quiet(2, 1)
		d.Of, d.Width = of, width
		for s := range d.Next {
			d.Next[s] = make([]int, max(0, width))
		}
		holdRight(t, d, normal(of, width), "of these classes,")
	}
	var may int
	for _, most := range []int{1, 2, 3, 16, 200} {
		for range 40 {
			of, width := sample.AnyClasses(most, next)
			for n := range 256 {
				x := of
				x[next(256)] = uint8(n)
				hold(x, width)
				if normal(x, width) {
					may++
				}
			}
			for _, n := range []int{-1, 0, 1, 2, 255, 256, 257, width - 1, width, width + 1} {
				hold(of, n)
			}
		}
	}
	if may < 500 || may > 40000 {
		t.Errorf("%d of the classes were normal", may)
	}
	// Normal ones whose numbers do not rise byte by byte; and such as begin with a number that is not 0.
	of := [256]uint8{0, 1, 0, 2, 1, 0, 3}
	hold(of, 4)
	hold([256]uint8{}, 1)
	hold([256]uint8{1}, 2)
	hold([256]uint8{255: 1}, 2)
	hold([256]uint8{255: 2}, 2)
	hold([256]uint8{254: 2, 255: 1}, 3)
	hold([256]uint8{254: 1, 255: 2}, 3)
}

// Each number of a machine with each value about the edges.
func TestP2002RightNumbers(t *testing.T) {
	t.Parallel()
	d := leading(5, 3, 2)
	values := append(outsides(5), 0, 1, 2, 3, 4, 64, 65, 256, 65536)
	for s := range 5 {
		for _, n := range values {
			holdRight(t, withLabel(d, s, n), 0 <= n && n <= 2, "with the label %d at %d,", n, s)
			for class := range 3 {
				holdRight(t, withNext(d, s, class, n), 0 <= n && n < 5, "with %d behind %d,", n, s)
			}
		}
		for length := range 300 {
			holdRight(t, withRow(d, s, make([]int, length)), length == 3, "with a row of %d at %d,", length, s)
		}
	}
	// Of labels the greatest one is that of the last name.
	for names := range 66 {
		d.Names = called(names)
		for _, label := range []int{names - 1, names, names + 1, 64, 65} {
			holdRight(t, withLabel(quietLike(d), 4, label), names <= 64 && 0 <= label && label <= names, "with the label %d of %d names,", label, names)
		}
	}
}

// quietLike: a machine like another one, without labels.
func quietLike(d api.Dfa) api.Dfa {
	d.Label = make([]int, len(d.Label))
	return d
}

// How many rows there are, and how many labels.
func TestP2002RightLists(t *testing.T) {
	t.Parallel()
	for _, width := range []int{1, 2, 256} {
		for rows := range 5 {
			for labels := range 5 {
				d := quiet(max(rows, labels), width)
				d.Next, d.Label = slices.Repeat([][]int{make([]int, width)}, rows), make([]int, labels)
				holdRight(t, d, rows == labels && rows > 0, "of %d rows and %d labels,", rows, labels)
			}
		}
	}
	// A state that has a row alone, or a label alone, is none.
	d := quiet(3, 1)
	d.Next = append(d.Next, []int{3})
	holdRight(t, d, false, "with one row more,")
	d.Label = append(d.Label, 0)
	holdRight(t, d, true, "with its label,")
	d.Next = d.Next[:3]
	holdRight(t, d, false, "without its row,")
}

// Names: how many, which are the same, and which are none.
func TestP2002RightNames(t *testing.T) {
	t.Parallel()
	d := leading(3, 2, 0)
	hold := func(want bool, l ...string) {
		t.Helper()
		d.Names = l
		holdRight(t, d, want, "with %d names,", len(l))
	}
	for n := range 70 {
		hold(n <= 64, called(n)...)
	}
	hold(false, called(1000)...)
	hold(false, slices.Repeat([]string{"a"}, 1<<20)...)
	// Each two places with the same name.
	for _, n := range []int{2, 3, 64} {
		l := called(n)
		for i := range n {
			for j := range i {
				other := slices.Clone(l)
				other[i] = strings.Clone(l[j])
				hold(false, other...)
				other[i] = l[j] + "x"
				hold(len(other[i]) <= 32, other...)
			}
		}
	}
	hold(true, "a", "A", "aa", "a_", "_a", "b")
	// Names are such as rules may have: no others, at whichever place.
	for _, name := range sample.WrongNames() {
		for _, n := range []int{1, 2, 3, 64} {
			for _, at := range []int{0, n / 2, n - 1} {
				l := called(n)
				l[at] = name
				hold(false, l...)
			}
		}
	}
	for b := range 256 {
		one := string([]byte{byte(b)})
		hold(called32.MatchString(one), one)
		hold(called32.MatchString("a"+one), "other", "a"+one)
		hold(called32.MatchString("a"+one+"b"), "a"+one+"b", "other")
	}
	for length := range 70 {
		hold(1 <= length && length <= 32, strings.Repeat("a", length))
		hold(1 <= length && length <= 32, "b", strings.Repeat("_", length))
	}
}

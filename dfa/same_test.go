package dfa

import (
	"slices"
	"testing"

	"doublet/api"
	"doublet/sample"
)

// copied: a machine in memory of its own.
func copied(d api.Dfa) api.Dfa {
	var rows [][]int
	for _, row := range d.Next {
		rows = append(rows, slices.Clone(row))
	}
	d.Next, d.Label, d.Names = rows, slices.Clone(d.Label), slices.Clone(d.Names)
	return d
}

// variants: machines of which no two are the same: each but the first one differs from that one in one field alone.
func variants() []api.Dfa {
	// No row has a number twice, so that it has no two parts that are the same.
	d := withRow(leading(5, 4, 3), 0, []int{1, 2, 3, 4})
	l := []api.Dfa{d}
	for _, b := range []int{0, 1, 97, 254, 255} {
		x := d
		x.Of[b] ^= 1
		l = append(l, x)
	}
	for _, width := range []int{least, -4, -1, 0, 3, 5, 256, 4 + 1<<32, greatest} {
		x := d
		x.Width = width
		l = append(l, x)
	}
	for s := range 5 {
		for class := range 4 {
			for _, to := range []int{-1, d.Next[s][class] + 7, greatest} {
				l = append(l, withNext(d, s, class, to))
			}
		}
		row := d.Next[s]
		l = append(l, withRow(d, s, nil), withRow(d, s, row[:1]), withRow(d, s, row[:3]), withRow(d, s, row[1:]), withRow(d, s, append(slices.Clone(row), 0)), withRow(d, s, append([]int{0}, row...)))
		l = append(l, withLabel(d, s, -1), withLabel(d, s, 77))
	}
	for _, rows := range [][][]int{nil, d.Next[:1], d.Next[:4], d.Next[1:], append(slices.Clone(d.Next), nil), append(slices.Clone(d.Next), d.Next[0]), append([][]int{nil}, d.Next...)} {
		x := d
		x.Next = rows
		l = append(l, x)
	}
	for _, labels := range [][]int{nil, d.Label[:1], d.Label[:4], d.Label[1:], append(slices.Clone(d.Label), 0), append([]int{0}, d.Label...)} {
		x := d
		x.Label = labels
		l = append(l, x)
	}
	for _, names := range [][]string{nil, d.Names[:1], d.Names[:2], d.Names[1:], append(slices.Clone(d.Names), ""), append([]string{""}, d.Names...), {"_", "x", d.Names[2]}} {
		x := d
		x.Names = names
		l = append(l, x)
	}
	for place := range d.Names {
		for _, name := range []string{"", d.Names[place] + "x", d.Names[place] + "\x00", "X", "aZ_9"} {
			l = append(l, withName(d, place, name))
		}
	}
	return l
}

// Each is the same as itself, and as a copy, and as no other one.
func TestP2002SameVariants(t *testing.T) {
	l := variants()
	if len(l) < 120 {
		t.Errorf("there are only %d", len(l))
	}
	for i, a := range l {
		for j, b := range l {
			holdSame(t, a, b, i == j)
			holdSame(t, a, copied(b), i == j)
		}
	}
}

// The same numbers in other rows; the same bytes in other names.
func TestP2002SameCuts(t *testing.T) {
	of := func(rows ...[]int) api.Dfa { return api.Dfa{Next: rows} }
	l := []api.Dfa{{}, of([]int{1, 2, 3}), of([]int{1, 2}, []int{3}), of([]int{1}, []int{2, 3}), of([]int{1}, []int{2}, []int{3}), of([]int{1, 2, 3}, nil), of(nil, []int{1, 2, 3}), of(nil), of(nil, nil)}
	for _, names := range [][]string{{"abc"}, {"ab", "c"}, {"a", "bc"}, {"a", "b", "c"}, {"abc", ""}, {"", "abc"}, {""}, {"", ""}} {
		l = append(l, api.Dfa{Names: names})
	}
	l = append(l, api.Dfa{Label: []int{1}}, api.Dfa{Label: []int{1, 0}}, api.Dfa{Label: []int{0, 1}}, api.Dfa{Label: []int{0}}, api.Dfa{Width: 1}, api.Dfa{Of: [256]uint8{1}}, api.Dfa{Of: [256]uint8{255: 1}})
	for i, a := range l {
		for j, b := range l {
			holdSame(t, a, b, i == j)
		}
	}
}

// Nil and empty lists mean the same.
func TestP2002SameEmpty(t *testing.T) {
	full := leading(4, 2, 2)
	for _, d := range []api.Dfa{{}, full, withRow(full, 0, nil), withRow(full, 3, nil)} {
		for field := range 4 {
			a, b := copied(d), copied(d)
			switch field {
			case 0:
				a.Next, b.Next = nil, [][]int{}
			case 1:
				a.Label, b.Label = nil, []int{}
			case 2:
				a.Names, b.Names = nil, make([]string, 0, 5)
			case 3:
				if len(d.Next) > 0 {
					a.Next[0], b.Next[0] = nil, []int{}
				}
			}
			holdSame(t, a, b, true)
		}
	}
	holdSame(t, api.Dfa{}, api.Dfa{Next: [][]int{}, Label: []int{}, Names: []string{}}, true)
}

// Random machines, with one thing made another one; what is not the same is so in both orders.
func TestP2002SameRandom(t *testing.T) {
	t.Parallel()
	next := sample.Chances()
	met := map[bool]int{}
	for i := range 4000 {
		d := sample.AnyDfa(1+next(1+i%20), next)
		x := spoilt(copied(d), next)
		holdSame(t, d, copied(d), true)
		holdSame(t, x, copied(x), true)
		holdSame(t, d, x, same(d, x))
		other := sample.AnyDfa(1+next(2), next)
		holdSame(t, d, other, same(d, other))
		met[same(d, x)]++
		if t.Failed() {
			return
		}
	}
	if min(met[true], met[false]) < 200 {
		t.Errorf("so often they were the same: %v", met)
	}
}

// Machines that may not be are the same as themselves.
func TestP2002SameWrong(t *testing.T) {
	t.Parallel()
	sample.EachWrongDfa(func(_ string, d api.Dfa) {
		holdSame(t, d, d, true)
		if len(d.Next) < 200 {
			holdSame(t, d, copied(d), true)
		}
		holdSame(t, d, quiet(4, 3), false)
	})
}

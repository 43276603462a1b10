package quotient

import (
	"slices"
	"testing"

	"doublet/api"
	"doublet/sample"
)

// lettered: the same machine, with a class for each of a text's bytes, which rise, from 1 on, and with 0 for all others.
func lettered(bytes string, d api.Dfa) api.Dfa {
	d.Of = classes{}
	for i := range len(bytes) {
		d.Of[bytes[i]] = uint8(i + 1)
	}
	return d
}

// pickedRows: the same machine, with other classes, and with what stands at some places of each row.
func pickedRows(d api.Dfa, of classes, places ...int) api.Dfa {
	d.Of, d.Width = of, len(places)
	next := d.Next
	d.Next = nil
	for _, row := range next {
		var some []int
		for _, place := range places {
			some = append(some, row[place])
		}
		d.Next = append(d.Next, some)
	}
	return d
}

func TestP2304WrittenOut(t *testing.T) {
	for _, r := range []struct {
		bytes string
		rows  [][]int
		// which class each one becomes, and one of each of these
		numbers, places []int
	}{
		// The classes are told apart by the rows.
		{"", lists(ints(0)), ints(0), ints(0)},
		{"a", lists(ints(0, 1), ints(0, 1)), ints(0, 1), ints(0, 1)},
		{"ab", lists(ints(0, 1, 2), ints(0, 0, 0), ints(1, 1, 1)), ints(0, 1, 2), ints(0, 1, 2)},
		// Each pair of rows leaves two of them alike; all together none.
		{"ab", lists(ints(0, 0, 1), ints(2, 1, 1), ints(2, 2, 2)), ints(0, 1, 2), ints(0, 1, 2)},
		{"abc", lists(ints(0, 0, 1, 1), ints(0, 1, 0, 1)), ints(0, 1, 2, 3), ints(0, 1, 2, 3)},
		// All alike.
		{"a", lists(ints(0, 0)), ints(0, 0), ints(0)},
		{"abcde", lists(ints(1, 1, 1, 1, 1, 1), ints(2, 2, 2, 2, 2, 2), ints(0, 0, 0, 0, 0, 0)), ints(0, 0, 0, 0, 0, 0), ints(0)},
		// The first and the second, the first and the last, the two last ones, pairs that cross each other, three.
		{"ab", lists(ints(0, 0, 1), ints(1, 1, 1)), ints(0, 0, 1), ints(0, 2)},
		{"ab", lists(ints(0, 1, 0), ints(1, 1, 1)), ints(0, 1, 0), ints(0, 1)},
		{"ab", lists(ints(0, 1, 1), ints(1, 0, 0)), ints(0, 1, 1), ints(0, 1)},
		{"abc", lists(ints(1, 0, 1, 0), ints(0, 0, 0, 0)), ints(0, 1, 0, 1), ints(0, 1)},
		{"abc", lists(ints(1, 0, 0, 1), ints(0, 1, 1, 0)), ints(0, 1, 1, 0), ints(0, 1)},
		{"abc", lists(ints(2, 0, 2, 2), ints(1, 1, 1, 1), ints(0, 2, 0, 0)), ints(0, 1, 0, 0), ints(0, 1)},
		{"abcd", lists(ints(2, 0, 1, 0, 2), ints(1, 1, 1, 1, 1), ints(0, 2, 0, 2, 0)), ints(0, 1, 2, 1, 0), ints(0, 1, 2)},
		// Alike in all rows but the first one, the last one, one between.
		{"ab", lists(ints(0, 1, 1), ints(2, 2, 2), ints(0, 0, 0)), ints(0, 1, 1), ints(0, 1)},
		{"ab", lists(ints(1, 1, 1), ints(2, 2, 2), ints(0, 0, 1)), ints(0, 0, 1), ints(0, 2)},
		{"ab", lists(ints(1, 1, 1), ints(2, 1, 2), ints(0, 0, 0)), ints(0, 1, 0), ints(0, 1)},
		{"ab", lists(ints(1, 0, 1), ints(2, 2, 2), ints(0, 0, 1)), ints(0, 1, 2), ints(0, 1, 2)},
		// The same states, in other rows.
		{"abc", lists(ints(0, 1, 0, 1), ints(1, 0, 1, 0)), ints(0, 1, 0, 1), ints(0, 1)},
		{"ab", lists(ints(0, 1, 2), ints(1, 2, 0), ints(2, 0, 1)), ints(0, 1, 2), ints(0, 1, 2)},
	} {
		for _, label := range []int{0, 1} {
			d := lettered(r.bytes, rows("x y", make([]int, len(r.rows)), r.rows...))
			d.Label[0] = label
			holdMerge(t, d, pickedRows(d, grouped(d, r.numbers), r.places...))
			// Classes that lie side by side.
			d = rows("x y", d.Label, r.rows...)
			holdMerge(t, d, pickedRows(d, grouped(d, r.numbers), r.places...))
		}
	}
}

func lists(l ...[]int) [][]int { return l }

// Labels tell no classes apart, nor do states to which no word comes less than others.
func TestP2304AllElse(t *testing.T) {
	d := rows("x y z", ints(3, 0, 1), ints(0, 0, 0), ints(1, 1, 1), ints(0, 1, 1))
	holdMerge(t, d, pickedRows(d, grouped(d, ints(0, 1, 1)), 0, 1))
	holdMerge(t, withNext(d, 2, 0, 1), pickedRows(withNext(d, 2, 0, 1), classes{}, 0))
	d = leading(300, 7, 64)
	holdMerge(t, d, d)
	next := sample.Chances()
	for i := range 300 {
		d := sample.AnyDfa(1+next(9), next)
		d.Names = called(i % (api.MaxRules + 1))
		for s := range d.Label {
			d.Label[s] = next(len(d.Names) + 1)
		}
		// What is merged, and spread again, is merged to the same.
		x, wrong := Merge(d)
		if wrong != api.OK {
			t.Fatalf("Merge tells %d, of %s", wrong, brief(d))
		}
		if holdMerge(t, sample.Spread(x, 1+next(5), next), x); t.Failed() {
			return
		}
	}
}

// All classes of a few bytes are told by their least bytes, whatever these are.
func TestP2304LeastBytes(t *testing.T) {
	t.Parallel()
	few := []byte{0, 63, 64, 'a', 128, 255}
	for _, l := range partitions(len(few)) {
		for _, base := range []int{0, 1, 5} {
			// Each of the few bytes is of a class of its own, and all other ones are of one; base tells as which of the few these are.
			of := classes{}
			numbers := map[int]int{}
			row := []int{}
			want := classes{}
			wanted := map[int]int{}
			for b := range 256 {
				place := slices.Index(few, byte(b))
				key, group := place, l[base]
				if place >= 0 {
					group = l[place]
				}
				if _, ok := numbers[key]; !ok {
					numbers[key] = len(numbers)
					row = append(row, group)
				}
				if _, ok := wanted[group]; !ok {
					wanted[group] = len(wanted)
				}
				of[b], want[b] = uint8(numbers[key]), uint8(wanted[group])
			}
			d := quiet(7, 7)
			d.Of, d.Next[3] = of, row
			holdClasses(t, d, want, len(wanted))
			d.Next[0], d.Next[6] = row, row
			holdClasses(t, d, want, len(wanted))
		}
	}
}

// So many classes: all alike, all apart by the last state alone, by the first one, by eight states that each tell half of them apart; one state.
func TestP2304Widths(t *testing.T) {
	t.Parallel()
	for _, width := range []int{1, 2, 3, 16, 127, 128, 129, 255, 256} {
		all := by(width, func(class int) int { return class })
		for _, states := range []int{1, 2, 9, 300} {
			holdMerge(t, quiet(states, width), quiet(states, 1))
		}
		for _, s := range []int{0, 1, 150, 299} {
			d := withRow(quiet(300, width), s, all)
			holdMerge(t, d, d)
			d = withRow(quiet(300, width), s, sample.Turned(all))
			holdMerge(t, d, d)
			// By the first class, or the last one, alone.
			for _, class := range ends(width) {
				d = withNext(quiet(300, width), s, class, 7)
				of, places := classes{}, ints(0)
				if width > 1 {
					numbers := by(width, func(c int) int { return (map[bool]int{true: 1}[(c == class) != (class == 0)]) })
					of, places = grouped(d, numbers), ints(0, slices.Index(numbers, 1))
				}
				holdMerge(t, d, pickedRows(d, of, places...))
			}
		}
		halves := quiet(8, width)
		for bit, row := range halves.Next {
			for class := range row {
				row[class] = class >> bit & 1
			}
		}
		holdMerge(t, halves, halves)
		// Without one of them those that differ by its bit alone are alike.
		for bit := range 8 {
			d := withRow(halves, bit, make([]int, width))
			numbers := sample.Grouped(width, func(x, y int) bool { return x|1<<bit == y|1<<bit })
			places := by(slices.Max(numbers)+1, func(n int) int { return slices.Index(numbers, n) })
			holdMerge(t, d, pickedRows(d, grouped(d, numbers), places...))
		}
	}
}

// Each pair of classes alike, and all others apart.
func TestP2304Pairs(t *testing.T) {
	t.Parallel()
	hold := func(width, x, y int) {
		t.Helper()
		d := withRow(quiet(256, width), 200, upTo(0, width))
		d.Next[200][y] = x
		d.Next[3] = d.Next[200]
		places := slices.Delete(upTo(0, width), y, y+1)
		numbers := by(width, func(class int) int { return max(slices.Index(places, class), 0) })
		numbers[y] = x
		holdMerge(t, d, pickedRows(d, grouped(d, numbers), places...))
		// Another state tells them apart after all.
		d = withNext(d, 255, y, 0)
		holdMerge(t, d, d)
		d = withNext(withNext(d, 255, y, 255), 0, x, 1)
		holdMerge(t, d, d)
	}
	for y := range 12 {
		for x := range y {
			hold(12, x, y)
		}
	}
	for _, pair := range [][2]int{{0, 1}, {0, 255}, {254, 255}, {127, 128}, {63, 64}, {17, 200}} {
		hold(256, pair[0], pair[1])
	}
}

// More states than a byte, or two of them, can tell: classes are told apart by each bit of a state's number.
func TestP2304GreatNumbers(t *testing.T) {
	t.Parallel()
	for bit := range 16 {
		d := quiet(most, 3)
		for _, s := range []int{0, most / 2, most - 1} {
			for _, to := range []int{0, 1 << (15 - bit), most - 1} {
				x := withRow(d, s, ints(to, to, to^1<<bit))
				holdClasses(t, x, grouped(x, ints(0, 0, 1)), 2)
				x = withRow(d, s, ints(to, to^1<<bit, to))
				holdClasses(t, x, grouped(x, ints(0, 1, 0)), 2)
			}
		}
	}
}

// Classes that one row tells apart stay so, whatever another row says of them: there the sum, or the bits, of what both say are the same.
func TestP2304TwoRows(t *testing.T) {
	t.Parallel()
	d := quiet(most, 3)
	d.Next[0] = ints(0, 5, 0)
	hold := func(row []int) {
		t.Helper()
		x := withRow(d, 9, row)
		holdClasses(t, x, x.Of, 3)
		x = withRow(x, most-1, row)
		holdClasses(t, x, x.Of, 3)
	}
	for _, n := range []int{1, 2, 3, 5, 31, 127, 128, 255, 256, 257, 511, 512, 1000, 1 << 10, 1 << 11, 1 << 12, 1 << 13, 1 << 14, 32767, 32768, 32769, 65534, 65535} {
		hold(ints(n, 0, n-1))
		hold(ints(0, n, most-n))
		hold(ints(n, n-1, 0))
		hold(ints(n-1, n, most-1))
		hold(ints(n, n, n-1))
		hold(ints(n, n^1, n-1))
	}
	// Greater numbers of classes: so many further on, where the state is so many times as great.
	for _, n := range []int{1, 2, 3, 31, 100, 127, 128, 250, 254} {
		d := quiet(256, n+2)
		d.Next[7], d.Next[9] = upTo(0, n+2), by(n+2, func(class int) int { return min(class+2, 255) })
		d.Next[7][n+1], d.Next[9][0], d.Next[9][n], d.Next[9][n+1] = 0, 1, 0, 200
		holdMerge(t, d, d)
	}
}

// A machine that may not be, for whatever fault.
func TestP2304MayNotBe(t *testing.T) {
	t.Parallel()
	met := map[string]int{}
	sample.EachWrongDfa(func(fault string, d api.Dfa) {
		met[fault]++
		holdNoClasses(t, d)
	})
	if len(met) < 10 {
		t.Errorf("so often each fault is met: %v", met)
	}
	d := lettered("abc", rows("x y", ints(1, 2), ints(1, 0, 1, 0), ints(0, 0, 0, 0)))
	of := d
	of.Of['a'] = 3
	for _, x := range []api.Dfa{of, withLabel(d, 1, 3), withLabel(d, 0, -1), withNext(d, 1, 3, 2), withNext(d, 1, 3, -1), withRow(d, 1, ints(0, 0, 0)), withName(d, 1, "x"), withName(d, 1, "9")} {
		holdNoClasses(t, x)
	}
}

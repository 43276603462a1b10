package moore

import (
	"slices"
	"testing"

	"doublet/api"
	"doublet/quotient"
	"doublet/sample"
)

// tree: a machine of seven states and two classes: 0 leads to 1 and 2, these to 3 to 6, which stay, with labels.
func tree(labels ...int) api.Dfa {
	return rows("x y", append(ints(0, 0, 0), labels...), ints(1, 2), ints(3, 4), ints(5, 6), ints(3, 3), ints(4, 4), ints(5, 5), ints(6, 6))
}

func TestP2402AfterWrittenOut(t *testing.T) {
	for _, r := range []struct {
		d    api.Dfa
		want [][]int
	}{
		// One state, with a label, and without one; two of them.
		{quiet(1, 1), lists(ints(0))}, {ring("x", 1), lists(ints(0))}, {quiet(1, 256), lists(ints(0))},
		{quiet(2, 1), lists(ints(0, 0))}, {ring("x", 1, 0), lists(ints(0, 1))}, {ring("x", 1, 1), lists(ints(0, 0))}, {ring("x y", 2, 1), lists(ints(0, 1))},
		{rows("x", ints(0, 1), ints(0, 1), ints(1, 1)), lists(ints(0, 1))}, {rows("", ints(0, 0), ints(1, 0), ints(1, 1)), lists(ints(0, 0))},
		// Labels are told apart, whatever numbers they have; blocks are numbered by their least states.
		{withLabels(quiet(5, 2), "x", ints(0, 1, 1, 0, 1)), lists(ints(0, 1, 1, 0, 1))}, {withLabels(quiet(3, 1), "x", ints(1, 0, 1)), lists(ints(0, 1, 0))},
		{rows("a b c", ints(3, 1, 0, 3, 2, 1), ints(0), ints(1), ints(2), ints(3), ints(4), ints(5)), lists(ints(0, 1, 2, 0, 3, 1))},
		// A row, and one the other way round.
		{row(3), lists(ints(0, 0, 1), ints(0, 1, 2))}, {row(4), lists(ints(0, 0, 0, 1), ints(0, 0, 1, 2), ints(0, 1, 2, 3))},
		{row(5), lists(ints(0, 0, 0, 0, 1), ints(0, 0, 0, 1, 2), ints(0, 0, 1, 2, 3), ints(0, 1, 2, 3, 4))},
		{rows("x", ints(1, 0, 0, 0), ints(0), ints(0), ints(1), ints(2)), lists(ints(0, 1, 1, 1), ints(0, 1, 2, 2), ints(0, 1, 2, 3))},
		// A ring, with labels that come again, or do not.
		{ring("x", 1, 0, 1, 0), lists(ints(0, 1, 0, 1))}, {ring("x", 1, 0, 0, 1, 0, 0), lists(ints(0, 1, 1, 0, 1, 1), ints(0, 1, 2, 0, 1, 2))},
		{ring("x", 1, 1, 0, 0), lists(ints(0, 0, 1, 1), ints(0, 1, 2, 3))}, {ring("x", 0, 0, 0, 1), lists(ints(0, 0, 0, 1), ints(0, 0, 1, 2), ints(0, 1, 2, 3))},
		{ring("x y", 1, 1, 2, 2, 1, 1, 2, 2), lists(ints(0, 0, 1, 1, 0, 0, 1, 1), ints(0, 1, 2, 3, 0, 1, 2, 3))},
		// A tree: ends that differ, or do not, on both sides, or on one.
		{tree(0, 0, 0, 0), lists(ints(0, 0, 0, 0, 0, 0, 0))}, {tree(1, 1, 1, 1), lists(ints(0, 0, 0, 1, 1, 1, 1), ints(0, 1, 1, 2, 2, 2, 2))},
		{tree(1, 2, 1, 2), lists(ints(0, 0, 0, 1, 2, 1, 2), ints(0, 1, 1, 2, 3, 2, 3))}, {tree(1, 2, 2, 1), lists(ints(0, 0, 0, 1, 2, 2, 1), ints(0, 1, 2, 3, 4, 4, 3))},
		{tree(0, 0, 0, 1), lists(ints(0, 0, 0, 0, 0, 0, 1), ints(0, 0, 1, 0, 0, 0, 2), ints(0, 1, 2, 1, 1, 1, 3))},
		{tree(1, 0, 0, 0), lists(ints(0, 0, 0, 1, 0, 0, 0), ints(0, 1, 0, 2, 0, 0, 0), ints(0, 1, 2, 3, 2, 2, 2))},
		// What the first class, the second or the third one alone tells apart; two that each tell apart what the other does not.
		{rows("x", ints(0, 0, 1), ints(0, 0, 0), ints(2, 1, 1), ints(2, 2, 2)), lists(ints(0, 0, 1), ints(0, 1, 2))},
		{rows("x", ints(0, 0, 1), ints(0, 0, 0), ints(1, 2, 1), ints(2, 2, 2)), lists(ints(0, 0, 1), ints(0, 1, 2))},
		{rows("x", ints(0, 0, 1), ints(0, 0, 0), ints(1, 1, 2), ints(2, 2, 2)), lists(ints(0, 0, 1), ints(0, 1, 2))},
		{rows("x", ints(0, 0, 0, 0, 1), ints(0, 0), ints(4, 0), ints(0, 4), ints(4, 4), ints(4, 4)), lists(ints(0, 0, 0, 0, 1), ints(0, 1, 2, 3, 4))},
		{rows("x", ints(0, 0, 0, 0, 1), ints(0, 4), ints(4, 0), ints(2, 4), ints(4, 2), ints(4, 4)), lists(ints(0, 0, 0, 0, 1), ints(0, 1, 0, 1, 2))},
		{rows("x", ints(0, 0, 0, 0, 1), ints(0, 4), ints(4, 0), ints(1, 4), ints(4, 2), ints(4, 4)), lists(ints(0, 0, 0, 0, 1), ints(0, 1, 0, 1, 2), ints(0, 1, 2, 1, 3), ints(0, 1, 2, 3, 4))},
		// The same blocks behind them, by other classes, are not the same.
		{rows("x", ints(0, 0, 1), ints(0, 2), ints(2, 1), ints(2, 2)), lists(ints(0, 0, 1), ints(0, 1, 2))},
		// Alike ones that lead to each other, and to themselves.
		{rows("x", ints(0, 0, 1), ints(1, 2), ints(0, 2), ints(2, 2)), lists(ints(0, 0, 1))}, {rows("x", ints(0, 0, 0, 1), ints(1, 3), ints(2, 3), ints(0, 3), ints(0, 1)), lists(ints(0, 0, 0, 1))},
		{rows("x y", ints(1, 2, 1, 2), ints(1), ints(0), ints(3), ints(2)), lists(ints(0, 1, 0, 1))}, {rows("x y", ints(1, 2, 1, 2), ints(3), ints(2), ints(1), ints(0)), lists(ints(0, 1, 0, 1))},
		// 1 to 3 are apart by a word of no byte, of one byte, of two; no word leads to 3 and 4, which are told apart all the same.
		{rows("x", ints(0, 1, 0, 0, 0), ints(1), ints(1), ints(1), ints(2), ints(3)), lists(ints(0, 1, 0, 0, 0), ints(0, 1, 0, 2, 2), ints(0, 1, 0, 2, 3))},
		// Two that part others at once: in one round no more is told than by so many bytes.
		{rows("x", ints(0, 0, 0, 0, 1, 0), ints(1, 5), ints(2, 5), ints(3, 5), ints(4, 5), ints(4, 4), ints(0, 5)), lists(ints(0, 0, 0, 0, 1, 0), ints(0, 0, 0, 1, 2, 0), ints(0, 0, 1, 2, 3, 0), ints(0, 1, 2, 3, 4, 0), ints(0, 1, 2, 3, 4, 5))},
	} {
		holdTold(t, r.d, r.want...)
		// The same states at other places.
		next := sample.Chances()
		for range 5 {
			places := sample.Shuffled(upTo(0, len(r.d.Label)), next)
			var want [][]int
			for _, l := range r.want {
				want = append(want, moved(l, places))
			}
			holdTold(t, renumbered(r.d, places), want...)
		}
	}
}

// fork: a machine of two rows of states, with so many ahead of the ends, of which one has a label: by one class the rows go on, by all others each state leads to 0. And what each round tells of it.
func fork(bytes, width, class int) (api.Dfa, [][]int) {
	states := 2*bytes + 2
	d := quiet(states, width)
	for s, row := range d.Next {
		for other := range row {
			row[other] = 0
		}
		row[class] = s + 2
		if s >= 2*bytes {
			row[class] = s
		}
	}
	d = withLabels(d, "x", by(states, func(s int) int { return s / (states - 1) }))
	var told [][]int
	for k := range bytes + 1 {
		// Of the row with the label the last ones are told, so many as there are bytes, and the end.
		told = append(told, quotient.Norm(by(states, func(s int) int {
			if s%2 == 1 && s >= states-1-2*k {
				return s
			}
			return -1
		})))
	}
	return d, told
}

// Only the k-th byte tells states apart, and fewer ones do not; it is of the first class, of the last one, of one between.
func TestP2402AfterKthByte(t *testing.T) {
	t.Parallel()
	for _, width := range ints(1, 2, 3, 255, 256) {
		for _, class := range ints(0, width/2, width-1) {
			for _, bytes := range ints(0, 1, 2, 3, 7, 20) {
				d, told := fork(bytes, width, class)
				if holdTold(t, d, told...); t.Failed() {
					return
				}
				for k := range bytes {
					// So many bytes do not tell the first states apart, and one more does.
					if l := After(d, k); l[0] != l[1] || l[2*(bytes-k)] == l[2*(bytes-k)+1] {
						t.Errorf("After of %d is %s, of %s", k, many(l), brief(d))
					}
				}
				if l := After(d, bytes); l[0] == l[1] {
					t.Errorf("After of %d is %s, of %s", bytes, many(l), brief(d))
				}
			}
		}
	}
}

// holdShifted: behind so many bytes so many bits, and one more, are known of each state.
func holdShifted(t *testing.T, bits int) {
	t.Helper()
	d := shifted(bits)
	var told [][]int
	for k := range bits {
		told = append(told, by(len(d.Label), func(s int) int { return s >> (bits - 1 - k) }))
	}
	holdTold(t, d, told...)
	// The last bit is told instead: there is no more to be known.
	d.Label = rest(len(d.Label), 2)
	holdTold(t, d, d.Label)
}

func TestP2402AfterShifted(t *testing.T) {
	t.Parallel()
	for bits := 1; bits <= 9; bits++ {
		holdShifted(t, bits)
	}
}

// Whichever of many classes, of whichever of many states, tells two apart.
func TestP2402AfterOneClass(t *testing.T) {
	t.Parallel()
	for _, width := range ints(1, 2, 17, 128, 256) {
		for _, class := range slices.Compact(ints(0, width/3, width-1)) {
			for _, s := range ints(1, 50, 97) {
				// All lead to 0, but for one that leads to the last one, which has a label.
				d := withLabels(quiet(99, width), "x", by(99, func(s int) int { return s / 98 }))
				for _, row := range d.Next[:98] {
					clear(row)
				}
				one := by(99, func(some int) int { return max(some-97, 0) })
				holdTold(t, d, one)
				holdTold(t, withNext(d, s, class, 98), one, quotient.Norm(by(99, func(some int) int {
					switch some {
					case s:
						return 1
					case 98:
						return 2
					}
					return 0
				})))
			}
		}
	}
}

// Parts of a block are told apart by what comes again: each of many states, in an order of any kind, leads to one of few.
func TestP2402AfterParts(t *testing.T) {
	t.Parallel()
	next := sample.Chances()
	for i := range 600 {
		few := 1 + i%6
		states := few + 1 + next(30)
		d := quiet(states, 1+next(3))
		d.Names = called(few)
		// The first ones stay, each with a label of its own.
		for s := range few {
			d.Label[s] = s + 1
		}
		parts := by(states, func(s int) int { return -s - 1 })
		for s := few; s < states; s++ {
			d.Next[s] = by(d.Width, func(int) int { return next(few) })
			code := 0
			for _, to := range d.Next[s] {
				code = code*few + to
			}
			parts[s] = code
		}
		zero := quotient.Norm(by(states, func(s int) int { return min(s, few) }))
		one := quotient.Norm(parts)
		if slices.Equal(zero, one) {
			holdTold(t, d, zero)
		} else {
			holdTold(t, d, zero, one)
		}
		if t.Failed() {
			return
		}
	}
}

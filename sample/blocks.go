package sample

import (
	"slices"

	"doublet/api"
)

// By: the numbers that so many states have.
func By(states int, number func(s int) int) []int {
	l := make([]int, states)
	for s := range l {
		l[s] = number(s)
	}
	return l
}

// Rest: blocks of states that have one rest.
func Rest(states, by int) []int { return By(states, func(s int) int { return s % by }) }

// Partitions: all normal blocks of so many states.
func Partitions(states int) [][]int {
	all := [][]int{nil}
	for range states {
		var longer [][]int
		for _, l := range all {
			for n := range 1 + slices.Max(append([]int{-1}, l...)) + 1 {
				longer = append(longer, append(slices.Clone(l), n))
			}
		}
		all = longer
	}
	return all
}

// Grouped: numbers from 0 on for so many things: each has that of the first one that is together with it or, where there is none, the next one.
func Grouped(things int, together func(x, y int) bool) []int {
	var l []int
	count := 0
	for y := range things {
		x := 0
		for x < y && !together(x, y) {
			x++
		}
		if x < y {
			l = append(l, l[x])
			continue
		}
		l = append(l, count)
		count++
	}
	return l
}

// Apart: of each two states of a machine that may be, how many bytes the least words have of which other labels are told behind the one than behind the other; -1, if there are none.
func Apart(d api.Dfa) [][]int {
	states := len(d.Label)
	apart := make([][]int, states)
	for s := range apart {
		apart[s] = By(states, func(other int) int {
			if d.Label[s] == d.Label[other] {
				return -1
			}
			return 0
		})
	}
	// Behind the first byte of such a word stand two that the rest of it tells apart, and no shorter one.
	for length, more := 1, true; more; length++ {
		more = false
		for s := range apart {
			for other := range s {
				if apart[s][other] < 0 && leadApart(d, apart, s, other, length-1) {
					apart[s][other], apart[other][s], more = length, length, true
				}
			}
		}
	}
	return apart
}

// leadApart: does a class lead two states to such as words of so many bytes tell apart?
func leadApart(d api.Dfa, apart [][]int, s, other, length int) bool {
	for class, to := range d.Next[s] {
		if apart[to][d.Next[other][class]] == length {
			return true
		}
	}
	return false
}

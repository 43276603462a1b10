package dfa

import "iter"

// walk goes through states as they are met, each once: those of l, and then those to which each one leads that was met ahead.
func walk(l []int, leads [][]int) iter.Seq[int] {
	return func(yield func(s int) bool) {
		met := make([]bool, len(leads))
		waiting := [][]int{l}
		for len(waiting) > 0 {
			row := waiting[0]
			waiting = waiting[1:]
		next:
			for _, s := range row {
				if met[s] {
					continue next
				}
				met[s] = true
				if !yield(s) {
					return
				}
				waiting = append(waiting, leads[s])
			}
		}
	}
}

// reached: the states that are met from those of l on, in their order.
func reached(l []int, leads [][]int) []int {
	var states []int
	for s := range walk(l, leads) {
		states = append(states, s)
	}
	return states
}

// labelled: the states that have a label.
func labelled(labels []int) []int {
	var l []int
	for s, label := range labels {
		if label != 0 {
			l = append(l, s)
		}
	}
	return l
}

// ahead: for each state those from which a row leads to it.
func ahead(rows [][]int) [][]int {
	l := make([][]int, len(rows))
	for from, row := range rows {
		for _, to := range row {
			// By many classes a state may lead to one other: it is put there once.
			if ends := l[to]; len(ends) == 0 || ends[len(ends)-1] != from {
				l[to] = append(ends, from)
			}
		}
	}
	return l
}

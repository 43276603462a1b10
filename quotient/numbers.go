package quotient

import (
	"slices"

	"doublet/api"
)

// numbered: a number for each of so many places, one for those of one key, from 0 on in the order in which they come; and the first place of each number.
func numbered[K comparable](places int, key func(place int) K) (numbers, firsts []int) {
	met := map[K]int{}
	numbers = make([]int, places)
	for place := range places {
		k := key(place)
		n, ok := met[k]
		if !ok {
			n = len(firsts)
			met[k] = n
			firsts = append(firsts, place)
		}
		numbers[place] = n
	}
	return numbers, firsts
}

// normal: the same blocks, normal, and the least state of each.
func normal(l []int) (blocks, leasts []int) {
	return numbered(len(l), func(s int) int { return l[s] })
}

// stable: are there as many numbers as states, and do states in one block have one label, and rows that lead to the same blocks?
func stable(d api.Dfa, l []int) bool {
	if len(l) != len(d.Label) {
		return false
	}
	blocks, leasts := normal(l)
	together := func(s, t int) bool { return l[s] == l[t] }
	for s, block := range blocks {
		// To hold each state against the least one is enough: two that are as that one are as each other.
		least := leasts[block]
		if d.Label[s] != d.Label[least] || !slices.EqualFunc(d.Next[s], d.Next[least], together) {
			return false
		}
	}
	return true
}

// columns: a number for each class of a machine, one for those by which the same state is behind each state.
func columns(d api.Dfa) []int {
	numbers, firsts := make([]int, d.Width), []int{0}
	for _, row := range d.Next {
		// At most as many rows as there are classes tell more of them apart: to give numbers anew for each row would take long.
		if apart(row, numbers, firsts) {
			numbers, firsts = numbered(d.Width, func(class int) [2]int { return [2]int{numbers[class], row[class]} })
		}
	}
	return numbers
}

// apart: does a row lead to two states by classes of one number?
func apart(row, numbers, firsts []int) bool {
	for class, n := range numbers {
		if row[class] != row[firsts[n]] {
			return true
		}
	}
	return false
}

// picked: what stands in a list at some places.
func picked(l, places []int) []int {
	made := make([]int, len(places))
	for i, place := range places {
		made[i] = l[place]
	}
	return made
}

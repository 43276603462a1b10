// Package sample makes what the tests of other packages are made of; the program itself does not call it.
package sample

import "sync"

// Chances tells numbers from 0 on, each below the one that it is handed; their row is always the same.
func Chances() func(most int) int {
	x := uint64(88172645463325252)
	return func(most int) int {
		x ^= x << 13
		x ^= x >> 7
		x ^= x << 17
		return int(x % uint64(most))
	}
}

// AtOnce calls check for all places below n eight times at once, each time in an order of its own, and waits till all is checked.
func AtOnce(n int, check func(place int)) {
	var all sync.WaitGroup
	for i := range 8 {
		all.Go(func() {
			for at := range n {
				check((i*377 + at) % n)
			}
		})
	}
	all.Wait()
}

// Others asks some questions, then all of them many times at once, and again one after another; it tells the places of those that were ever answered otherwise than at first.
func Others[Q, A any](l []Q, ask func(q Q) A, alike func(x, y A) bool) []int {
	var first []A
	for _, q := range l {
		first = append(first, ask(q))
	}
	var lock sync.Mutex
	other := make([]bool, len(l))
	check := func(place int) {
		if !alike(ask(l[place]), first[place]) {
			lock.Lock()
			defer lock.Unlock()
			other[place] = true
		}
	}
	AtOnce(len(l), check)
	var places []int
	for place := range l {
		if check(place); other[place] {
			places = append(places, place)
		}
	}
	return places
}

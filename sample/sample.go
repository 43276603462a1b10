// Package sample makes what the tests of other packages are made of; the program itself does not call it.
package sample

import "sync"

// Chances tells numbers from 0 on, each below the one that it is handed; their row is always the same.
func Chances() func(most int) int {
	x := uint64(88172645463325252)
	return func(most int) int {
		x ^= x << 13
		x ^= x >> 7
		x ^= x << 17
		return int(x % uint64(most))
	}
}

// AtOnce calls check for all places below n eight times at once, each time in an order of its own, and waits till all is checked.
func AtOnce(n int, check func(place int)) {
	var all sync.WaitGroup
	for i := range 8 {
		all.Go(func() {
			for at := range n {
				check((i*377 + at) % n)
			}
		})
	}
	all.Wait()
}

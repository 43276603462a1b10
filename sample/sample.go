// Package sample makes what the tests of other packages are made of; the program itself does not call it.
package sample

// Chances tells numbers from 0 on, each below the one that it is handed; their row is always the same.
func Chances() func(most int) int {
	x := uint64(88172645463325252)
	return func(most int) int {
		x ^= x << 13
		x ^= x >> 7
		x ^= x << 17
		return int(x % uint64(most))
	}
}

package sample

import "slices"

// UpTo: the numbers from lo, below hi.
func UpTo(lo, hi int) []int {
	var l []int
	for i := lo; i < hi; i++ {
		l = append(l, i)
	}
	return l
}

// Turned: a list the other way round.
func Turned[T any](l []T) []T {
	l = slices.Clone(l)
	slices.Reverse(l)
	return l
}

// Shuffled: a list in another order.
func Shuffled[T any](l []T, next func(most int) int) []T {
	l = slices.Clone(l)
	for i := len(l) - 1; i > 0; i-- {
		j := next(i + 1)
		l[i], l[j] = l[j], l[i]
	}
	return l
}

// OneOf: one of some.
func OneOf[T any](l []T, next func(most int) int) T { return l[next(len(l))] }

// Many: so many of what a function makes.
func Many[T any](n int, make func() T) []T {
	var l []T
	for range n {
		l = append(l, make())
	}
	return l
}

package sample

import (
	"slices"

	"doublet/api"
)

// Unfolded: a machine of so many states, at least as many as another one has, of which each is as one of that one's, in its place; and as which: 0 is as 0, and each one's is met.
func Unfolded(d api.Dfa, states int, next func(most int) int) (api.Dfa, []int) {
	as := UpTo(1, len(d.Label))
	for len(as) < states-1 {
		as = append(as, next(len(d.Label)))
	}
	as = append([]int{0}, Shuffled(as, next)...)
	places := make([][]int, len(d.Label))
	for s, one := range as {
		places[one] = append(places[one], s)
	}
	made := api.Dfa{Of: d.Of, Width: d.Width, Names: slices.Clone(d.Names)}
	for _, one := range as {
		row := make([]int, d.Width)
		for class, to := range d.Next[one] {
			row[class] = OneOf(places[to], next)
		}
		made.Next, made.Label = append(made.Next, row), append(made.Label, d.Label[one])
	}
	return made, as
}

// Spread: the same machine with more classes: each is parted by chance, into at most so many.
func Spread(d api.Dfa, most int, next func(most int) int) api.Dfa {
	numbers := map[[2]int]int{}
	var as []int
	of := d.Of
	for b, class := range d.Of {
		key := [2]int{int(class), next(most)}
		if _, ok := numbers[key]; !ok {
			numbers[key] = len(as)
			as = append(as, int(class))
		}
		of[b] = uint8(numbers[key])
	}
	made := api.Dfa{Of: of, Width: len(as), Label: slices.Clone(d.Label), Names: slices.Clone(d.Names)}
	for _, row := range d.Next {
		var wider []int
		for _, class := range as {
			wider = append(wider, row[class])
		}
		made.Next = append(made.Next, wider)
	}
	return made
}

// AnyUnfolded: a machine of at most twice so many states, and blocks of it in which states are alike: each state alone, or fewer; its classes may be more than it needs.
func AnyUnfolded(states int, next func(most int) int) (api.Dfa, []int) {
	d := AnyDfa(1+next(states), next)
	l := UpTo(0, len(d.Label))
	if next(4) > 0 {
		d, l = Unfolded(d, len(d.Label)+next(1+states), next)
	}
	if next(3) == 0 {
		d = Spread(d, 1+next(4), next)
	}
	return d, l
}

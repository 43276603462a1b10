package sample

import (
	"slices"

	"doublet/api"
)

// DfaNumber: a number at an edge of something of a machine, a state, or far off.
func DfaNumber(d api.Dfa, next func(most int) int) int {
	states := len(d.Label)
	l := append(Outside(states), 0, 1, 2, next(states+1), states-1, len(d.Names), len(d.Names)+1, d.Width-1, d.Width, d.Width+1, 255, 256, 65536)
	return l[next(len(l))]
}

// SpoiltDfa: a machine that may be with one thing made another one: it may be then, or not.
func SpoiltDfa(d api.Dfa, next func(most int) int) api.Dfa {
	s := next(len(d.Label))
	switch next(9) {
	case 0:
		d.Of[next(256)] = uint8(next(256))
	case 1:
		d.Width = DfaNumber(d, next)
	case 2:
		return WithNext(d, s, next(d.Width), DfaNumber(d, next))
	case 3:
		return WithRow(d, s, make([]int, next(d.Width+3)))
	case 4:
		return WithLabel(d, s, DfaNumber(d, next))
	case 5:
		d.Next = append(slices.Clone(d.Next), d.Next[:next(2)]...)
	case 6:
		d.Label = append(slices.Clone(d.Label), d.Label[:next(2)]...)
	case 7:
		d.Names = append(slices.Clone(d.Names), Called(api.MaxRules + 1)[next(api.MaxRules+1)])
	case 8:
		l := append(WrongNames(), "right", "A", "Z_9")
		d.Names = append([]string{l[next(len(l))]}, d.Names...)
	}
	return d
}

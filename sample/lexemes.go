package sample

import (
	"doublet/api"
	"doublet/sets"
)

// Wordy: the lexemes of a right text, some n of them, with many brackets, but at most so deep.
func Wordy(n, deep int, next func(most int) int) []api.Lexeme {
	var l []api.Lexeme
	for len(l) < n {
		switch kind := next(12); {
		case kind < 2:
			l = append(l, api.Lexeme{Kind: api.LexSet, Set: sets.Of(byte(next(256)))})
		case kind < 6 && deep > 0:
			l = append(l, api.Lexeme{Kind: api.LexOpen})
			l = append(l, Wordy(next(n-len(l)+1), deep-1, next)...)
			l = append(l, api.Lexeme{Kind: api.LexClose})
		case kind < 7:
			l = append(l, api.Lexeme{Kind: api.LexBar})
		case len(l) > 0 && l[len(l)-1].Kind != api.LexBar:
			lo := next(api.MaxRep + 1)
			l = append(l, []api.Lexeme{{Kind: api.LexStar}, {Kind: api.LexPlus}, {Kind: api.LexOpt}, {Kind: api.LexRep, Lo: lo, Hi: -1}, {Kind: api.LexRep, Lo: lo, Hi: lo + next(api.MaxRep+1-lo)}}[next(5)])
		}
	}
	return l
}

// Deepest: how many brackets stand within each other.
func Deepest(l []api.Lexeme) int {
	deep, most := 0, 0
	for _, x := range l {
		switch x.Kind {
		case api.LexOpen:
			deep++
		case api.LexClose:
			deep--
		}
		most = max(most, deep)
	}
	return most
}

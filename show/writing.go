package show

import "doublet/api"

// Levels of what is written: what stands where a higher one is asked for needs brackets.
const (
	alternative = iota
	part
	piece
)

// A style is how the nodes of a kind are written.
type style struct {
	// level: that of what is written.
	level int
	// asked: the level that each kid has to be of.
	asked int
	// between, behind: the signs between Kids, and behind all of them; 0: none.
	between, behind api.LexKind
}

// styles: those of all kinds.
var styles = [api.KindRep + 1]style{
	api.KindNone:  {level: piece, behind: api.LexSet},
	api.KindEmpty: {level: part},
	api.KindSet:   {level: piece, behind: api.LexSet},
	api.KindCat:   {level: part, asked: piece},
	api.KindAlt:   {level: alternative, asked: part, between: api.LexBar},
	api.KindStar:  {level: piece, asked: piece, behind: api.LexStar},
	api.KindPlus:  {level: piece, asked: piece, behind: api.LexPlus},
	api.KindOpt:   {level: piece, asked: piece, behind: api.LexOpt},
	api.KindRep:   {level: piece, asked: piece, behind: api.LexRep},
}

// written: the lexemes of a tree that may be, however many they are.
func written(x api.Node) []api.Lexeme {
	var l []api.Lexeme
	sign := func(y api.Lexeme) {
		if y.Kind != 0 {
			l = append(l, y)
		}
	}
	var put func(y api.Node, asked int)
	put = func(y api.Node, asked int) {
		s := styles[y.Kind]
		if s.level < asked {
			sign(api.Lexeme{Kind: api.LexOpen})
		}
		for i, kid := range y.Kids {
			if i > 0 {
				sign(api.Lexeme{Kind: s.between})
			}
			put(kid, s.asked)
		}
		// In a tree that may be Set, Lo and Hi are zero but where the sign has them.
		sign(api.Lexeme{Kind: s.behind, Set: y.Set, Lo: y.Lo, Hi: y.Hi})
		if s.level < asked {
			sign(api.Lexeme{Kind: api.LexClose})
		}
	}
	put(x, alternative)
	return l
}

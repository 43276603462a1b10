package parse

import (
	"doublet/api"
	"doublet/tree"
)

// none: what is ahead behind the last lexeme; no lexeme that may be is of this kind.
const none api.LexKind = 0

// A parser goes through lexemes that may be, from the left. A way of it that finds something wrong panics with a Bad.
type parser struct {
	// rest: the lexemes that are not read yet.
	rest []api.Lexeme
	// deep: how many brackets are open.
	deep int
}

// whole: the tree of all.
func (p *parser) whole() api.Node {
	x := p.alternative()
	if p.ahead() != none {
		// No | is left behind an alternative, and no piece.
		panic(api.Bad{Kind: api.ErrClose, At: p.take().At})
	}
	return x
}

func (p *parser) alternative() api.Node {
	l := []api.Node{p.part()}
	for p.ahead() == api.LexBar {
		p.take()
		l = append(l, p.part())
	}
	return above(api.KindAlt, l)
}

func (p *parser) part() api.Node {
	var l []api.Node
	for !p.ended() {
		l = append(l, p.piece())
	}
	if len(l) == 0 {
		return tree.Empty()
	}
	return above(api.KindCat, l)
}

func (p *parser) piece() api.Node {
	x := p.core()
	for kind := repeating(p.ahead()); kind != 0; kind = repeating(p.ahead()) {
		y := p.take()
		// Not by tree's makers: these copy, and a long row of * would cost its square.
		x = api.Node{Kind: kind, Kids: []api.Node{x}, Lo: y.Lo, Hi: y.Hi}
	}
	return x
}

// core: a piece without what repeats it.
func (p *parser) core() api.Node {
	x := p.take()
	switch x.Kind {
	case api.LexSet:
		return tree.Bytes(x.Set)
	case api.LexOpen:
		return p.brackets(x.At)
	}
	panic(api.Bad{Kind: api.ErrNone, At: x.At})
}

// brackets: what stands behind a ( at a place, as far as its ).
func (p *parser) brackets(at int) api.Node {
	if p.deep == api.MaxDeep {
		panic(api.Bad{Kind: api.ErrDeep, At: at})
	}
	p.deep++
	x := p.alternative()
	if p.ahead() == none {
		panic(api.Bad{Kind: api.ErrOpen, At: at})
	}
	p.take()
	p.deep--
	return x
}

// ahead: the kind of the next lexeme.
func (p *parser) ahead() api.LexKind {
	if len(p.rest) == 0 {
		return none
	}
	return p.rest[0].Kind
}

// take goes past the next lexeme, which there has to be.
func (p *parser) take() api.Lexeme {
	x := p.rest[0]
	p.rest = p.rest[1:]
	return x
}

// ended: has a part come to its end?
func (p *parser) ended() bool {
	switch p.ahead() {
	case none, api.LexBar, api.LexClose:
		return true
	}
	return false
}

// repeating: the kind of tree that a lexeme makes of the piece ahead of it; 0: it makes none.
func repeating(kind api.LexKind) api.Kind {
	switch kind {
	case api.LexStar:
		return api.KindStar
	case api.LexPlus:
		return api.KindPlus
	case api.LexOpt:
		return api.KindOpt
	case api.LexRep:
		return api.KindRep
	}
	return 0
}

// above: a node of a kind above one tree or more; of one it is that one.
func above(kind api.Kind, l []api.Node) api.Node {
	if len(l) == 1 {
		return l[0]
	}
	return api.Node{Kind: kind, Kids: l}
}

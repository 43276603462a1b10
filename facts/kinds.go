package facts

import "doublet/api"

// endless: the Hi of a KindRep that has no end.
const endless = -1

// byKind tells something of a set, of some one behind the other, of one of some, and of one from lo to hi times, by what it told of these.
type byKind[T any] struct {
	set func(s api.Set) T
	cat func(l ...T) T
	alt func(l ...T) T
	rep func(kid T, lo, hi int) T
}

// of tells it of a tree that may be.
func (tell byKind[T]) of(x api.Node) T {
	kids := make([]T, len(x.Kids))
	for i, kid := range x.Kids {
		kids[i] = tell.of(kid)
	}
	switch x.Kind {
	case api.KindEmpty, api.KindCat:
		return tell.cat(kids...)
	case api.KindSet:
		return tell.set(x.Set)
	case api.KindStar:
		return tell.rep(kids[0], 0, endless)
	case api.KindPlus:
		return tell.rep(kids[0], 1, endless)
	case api.KindOpt:
		return tell.rep(kids[0], 0, 1)
	case api.KindRep:
		return tell.rep(kids[0], x.Lo, x.Hi)
	}
	// KindAlt is left, and KindNone, which is one of none.
	return tell.alt(kids...)
}

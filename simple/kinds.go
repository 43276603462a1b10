package simple

import (
	"slices"

	"doublet/api"
	"doublet/tree"
)

// endless: the Hi of a KindRep that has no end.
const endless = -1

// maker: what makes of a node's simple Kids its simple tree.
// All these functions use up what they are handed: with a copy at each node, as package tree makes them, trees deep within each other would cost the square of their size.
func maker(x api.Node) func(kids ...api.Node) api.Node {
	switch x.Kind {
	case api.KindSet:
		return func(...api.Node) api.Node { return leaf(x.Set) }
	case api.KindEmpty, api.KindCat:
		return cat
	case api.KindStar:
		return only(star)
	case api.KindPlus:
		return only(plus)
	case api.KindOpt:
		return only(opt)
	case api.KindRep:
		return only(func(kid api.Node) api.Node { return rep(kid, x.Lo, x.Hi) })
	}
	// KindAlt is left, and KindNone, which is one of none.
	return alt
}

// only: what makes a tree of one kid, as a function of any number of them.
func only(one func(kid api.Node) api.Node) func(kids ...api.Node) api.Node {
	return func(kids ...api.Node) api.Node { return one(kids[0]) }
}

// leaf: one byte of a set.
func leaf(s api.Set) api.Node {
	if s == (api.Set{}) {
		return tree.None()
	}
	return tree.Bytes(s)
}

// cat: one behind the other.
func cat(l ...api.Node) api.Node {
	l = flat(l, partsOf(api.KindCat))
	l = slices.DeleteFunc(l, isOf(api.KindEmpty))
	if slices.ContainsFunc(l, isOf(api.KindNone)) {
		return tree.None()
	}
	return list(api.KindCat, tree.Empty(), l)
}

// alt: one of some.
func alt(l ...api.Node) api.Node {
	l = flat(l, partsOf(api.KindAlt))
	l = slices.DeleteFunc(l, isOf(api.KindNone))
	return list(api.KindAlt, tree.None(), oneSet(distinct(l, mark, tree.Same)))
}

// star: any number.
func star(x api.Node) api.Node {
	switch x.Kind {
	case api.KindNone, api.KindEmpty:
		return tree.Empty()
	case api.KindStar, api.KindPlus, api.KindOpt:
		return above(api.KindStar, x.Kids...)
	}
	return above(api.KindStar, x)
}

// plus: one or more.
func plus(x api.Node) api.Node {
	switch x.Kind {
	case api.KindNone, api.KindEmpty, api.KindStar, api.KindPlus:
		return x
	case api.KindOpt:
		return above(api.KindStar, x.Kids...)
	}
	return above(api.KindPlus, x)
}

// opt: one or none.
func opt(x api.Node) api.Node {
	switch x.Kind {
	case api.KindNone:
		return tree.Empty()
	case api.KindEmpty, api.KindStar, api.KindOpt:
		return x
	case api.KindPlus:
		return above(api.KindStar, x.Kids...)
	}
	return above(api.KindOpt, x)
}

// rep: so many.
func rep(x api.Node, lo, hi int) api.Node {
	switch {
	case hi == 0, x.Kind == api.KindEmpty, x.Kind == api.KindNone && lo <= 0:
		return tree.Empty()
	case x.Kind == api.KindNone:
		return x
	}
	switch [2]int{lo, hi} {
	case [2]int{1, 1}:
		return x
	case [2]int{0, endless}:
		return star(x)
	case [2]int{1, endless}:
		return plus(x)
	case [2]int{0, 1}:
		return opt(x)
	}
	y := above(api.KindRep, x)
	y.Lo, y.Hi = lo, hi
	return y
}

// list: a node of a kind above some trees; of none what stands for no tree, of one it.
func list(kind api.Kind, none api.Node, l []api.Node) api.Node {
	switch len(l) {
	case 0:
		return none
	case 1:
		return l[0]
	}
	return above(kind, l...)
}

// above: a node of a kind above some trees.
func above(kind api.Kind, l ...api.Node) api.Node { return api.Node{Kind: kind, Kids: l} }

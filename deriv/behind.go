package deriv

import (
	"iter"

	"doublet/api"
	"doublet/facts"
	"doublet/sets"
	"doublet/simple"
	"doublet/tree"
)

// endless: the Hi of a KindRep that has no end.
const endless = -1

// search tells what stands behind a byte in a simple tree, and true; no tree and false, if it has too many nodes.
type search func(x api.Node) (api.Node, bool)

// behind: what stands behind b in a simple tree, and true; no tree and false, if it has too many nodes.
// What is made of trees here never has fewer nodes than one of them: where one has too many, the whole has, too. To go on would take long, for what is behind a byte in trees that repeat within each other grows at each level.
func behind(x api.Node, b byte) (api.Node, bool) {
	var find search
	find = func(x api.Node) (api.Node, bool) {
		switch x.Kind {
		case api.KindSet:
			if sets.Has(x.Set, b) {
				return tree.Empty(), true
			}
		case api.KindCat:
			return either(find.inRow(x.Kids))
		case api.KindAlt:
			return either(find.inEach(x.Kids))
		case api.KindStar, api.KindPlus:
			return find.then(x.Kids[0], func() []api.Node { return []api.Node{simple.Star(x.Kids[0])} })
		case api.KindOpt:
			return find(x.Kids[0])
		case api.KindRep:
			return find.then(x.Kids[0], func() []api.Node { return []api.Node{oneLess(x)} })
		}
		return tree.None(), true
	}
	return find(x)
}

// then: what is behind the byte in x, and then the rest.
func (find search) then(x api.Node, rest func() []api.Node) (api.Node, bool) {
	y, fits := find(x)
	if !fits || y.Kind == api.KindNone {
		// The rest, which may be great, is not made in vain.
		return y, fits
	}
	return fitting(simple.Cat(append([]api.Node{y}, rest()...)...))
}

// inRow goes through what is behind the byte in trees one behind the other, by the one in which it is.
func (find search) inRow(l []api.Node) iter.Seq2[api.Node, bool] {
	return func(yield func(api.Node, bool) bool) {
		for i, x := range l {
			if i > 0 && !facts.Nullable(l[i-1]) {
				return
			}
			if !yield(find.then(x, func() []api.Node { return l[i+1:] })) {
				return
			}
		}
	}
}

// inEach goes through what is behind the byte in each of some trees.
func (find search) inEach(l []api.Node) iter.Seq2[api.Node, bool] {
	return func(yield func(api.Node, bool) bool) {
		for _, x := range l {
			if !yield(find(x)) {
				return
			}
		}
	}
}

// either: one of the trees of a sequence, and true; no tree and false, as soon as too many nodes are met.
func either(parts iter.Seq2[api.Node, bool]) (api.Node, bool) {
	var l []api.Node
	n := 0
	for x, fits := range parts {
		if !fits {
			return x, false
		}
		if x.Kind == api.KindNone {
			continue
		}
		l, n = append(l, x), n+tree.Size(x)
		if n <= 2*api.MaxNodes {
			continue
		}
		// Many of these may be the same. That they are not put together one by one saves time, that they are not all kept saves room.
		if x, fits = oneOf(l); !fits {
			return x, false
		}
		l, n = []api.Node{x}, tree.Size(x)
	}
	return oneOf(l)
}

// oneOf: one of some trees.
func oneOf(l []api.Node) (api.Node, bool) {
	if len(l) == 1 {
		// It is simple, and has room. To copy it at each level of a deep tree would take long.
		return l[0], true
	}
	return fitting(simple.Alt(l...))
}

// oneLess: a KindRep's kid once less.
func oneLess(x api.Node) api.Node {
	lo, hi := max(x.Lo-1, 0), x.Hi-1
	if x.Hi == endless {
		hi = endless
	}
	return simple.Rep(x.Kids[0], lo, hi)
}

// fitting: a tree, and true; no tree and false, if it has too many nodes.
func fitting(x api.Node) (api.Node, bool) {
	if tree.Size(x) > api.MaxNodes {
		return api.Node{}, false
	}
	return x, true
}

package nfa

import (
	"doublet/api"
	"doublet/num"
)

// endless: the Hi of a KindRep that has no end.
const endless = -1

// part is a tree, or what is below one, and how many new states and links it takes: it is weighed once, however often it is laid.
type part struct {
	api.Node
	weight, links int
	parts         []part
}

// share is what a tree adds to what its Kids take: how often these are laid, and which states and links come beside theirs.
type share struct{ times, states, links int }

// weighed: a tree and all that is below it, with weights that sum puts together.
func weighed(x api.Node, sum func(l ...int) int) part {
	// A tree of more nodes may not be. It is gone through no further, for all that is promised of it is an end.
	left := api.MaxNodes
	var weigh func(x api.Node) part
	weigh = func(x api.Node) part {
		p := part{Node: x}
		states, links := 0, 0
		for _, kid := range x.Kids {
			if left == 0 {
				break
			}
			left--
			below := weigh(kid)
			p.parts = append(p.parts, below)
			states, links = sum(states, below.weight), sum(links, below.links)
		}
		s := shareOf(x, states)
		p.weight = sum(num.Mul(Top, s.times, states), s.states)
		p.links = sum(num.Mul(Top, s.times, links), s.links)
		return p
	}
	return weigh(x)
}

// shareOf: the share of a tree whose Kids take so many states.
func shareOf(x api.Node, kids int) share {
	switch x.Kind {
	case api.KindNone, api.KindSet:
		return share{states: 1}
	case api.KindCat:
		return share{times: 1}
	case api.KindAlt:
		return share{times: 1, states: 1, links: len(x.Kids)}
	case api.KindStar, api.KindPlus, api.KindOpt:
		return share{times: 1, states: 1, links: 2}
	case api.KindRep:
		if kids > 0 {
			return shareOfRep(x.Lo, x.Hi)
		}
	}
	// KindEmpty is left, a KindRep that is as one, and what may not be.
	return share{}
}

// shareOfRep: that of a KindRep whose kid takes a state or more.
func shareOfRep(lo, hi int) share {
	switch {
	case hi == endless:
		return share{times: lo + 1, states: 1, links: 2}
	case hi > lo:
		return share{times: hi, states: 1, links: hi - lo + 1}
	}
	return share{times: lo}
}

// sumTo sums numbers, and stops at a top.
func sumTo(top int) func(l ...int) int {
	return func(l ...int) int { return num.Add(top, l...) }
}

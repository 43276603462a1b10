package match

import (
	"doublet/api"
	"doublet/sets"
)

// endless: the Hi of a KindRep that has no end.
const endless = -1

// part: a node of a tree, and the numbers of its Kids' parts.
type part struct {
	node api.Node
	kids []int
}

// piece: a part by its number, said once, or any number of times.
type piece struct {
	part  int
	again bool
}

// row: at which places words of a piece were looked for, and where those end that begin there.
type row struct {
	known places
	ends  []places
}

// search looks within a word for words of a tree's parts. What was found is kept: else parts that repeat within one another would be gone through more often with each level.
type search struct {
	word  []byte
	parts []part
	found map[piece]*row
}

// ends: where words of a tree that may be end, of those that begin where w does.
func ends(x api.Node, w []byte) places {
	s := search{word: w, found: map[piece]*row{}}
	return s.after(piece{part: s.number(x)}, just(0))
}

// number makes parts of all nodes of a tree, and tells the first one's number.
func (s *search) number(x api.Node) int {
	n := len(s.parts)
	s.parts = append(s.parts, part{node: x})
	kids := make([]int, len(x.Kids))
	for i, kid := range x.Kids {
		kids[i] = s.number(kid)
	}
	s.parts[n].kids = kids
	return n
}

// after: where words of a piece end that begin at one of some places.
func (s *search) after(p piece, from places) places {
	// A leaf is as soon asked as looked up.
	if x := s.parts[p.part]; len(x.kids) == 0 && !p.again {
		return s.leaf(x.node, from)
	}
	kept := s.found[p]
	if kept == nil {
		kept = &row{ends: make([]places, len(s.word)+1)}
		s.found[p] = kept
	}
	var all places
	for at := range from.each() {
		if !kept.known.has(at) {
			kept.ends[at] = s.look(p, at)
			kept.known = kept.known.with(just(at))
		}
		all.add(&kept.ends[at])
	}
	return all
}

// leaf is after for a node without Kids.
func (s *search) leaf(x api.Node, from places) places {
	var all places
	switch x.Kind {
	case api.KindEmpty:
		return from
	case api.KindSet:
		for at := range from.each() {
			if at < len(s.word) && sets.Has(x.Set, s.word[at]) {
				all = all.with(just(at + 1))
			}
		}
	}
	return all
}

// look: where words of a piece end that begin at a place, worked out by those of a node's Kids.
func (s *search) look(p piece, at int) places {
	x := s.parts[p.part]
	switch {
	case p.again:
		return s.again(p, at)
	case x.node.Kind == api.KindCat:
		return s.joined(x.kids, at)
	case x.node.Kind == api.KindAlt:
		return s.either(x.kids, at)
	case x.node.Kind == api.KindStar:
		return s.times(x.kids[0], 0, endless, at)
	case x.node.Kind == api.KindPlus:
		return s.times(x.kids[0], 1, endless, at)
	case x.node.Kind == api.KindOpt:
		return s.times(x.kids[0], 0, 1, at)
	}
	return s.times(x.kids[0], x.node.Lo, x.node.Hi, at)
}

// joined: where words of parts, one behind the other, end.
func (s *search) joined(kids []int, at int) places {
	all := just(at)
	for _, kid := range kids {
		all = s.after(piece{part: kid}, all)
	}
	return all
}

// either: where words of one of some parts end.
func (s *search) either(kids []int, at int) places {
	var all places
	for _, kid := range kids {
		all = all.with(s.after(piece{part: kid}, just(at)))
	}
	return all
}

// again: where any number of words of a part, one behind the other, end.
func (s *search) again(p piece, at int) places {
	here := just(at)
	// Empty words lead nowhere: without them each step comes nearer to the word's end.
	next := s.after(piece{part: p.part}, here).less(here)
	return here.with(s.after(p, next))
}

// times: where from lo to hi words of a part, one behind the other, end.
func (s *search) times(kid, lo, hi, at int) places {
	once := piece{part: kid}
	all := just(at)
	if s.after(once, all).has(at) {
		// The empty word stands in for those that are missing.
		lo = 0
	}
	for n := 0; n < lo && all != (places{}); n++ {
		all = s.after(once, all)
	}
	// More of them than there are bytes would only be empty ones.
	if hi == endless || hi >= len(s.word) {
		return s.after(piece{part: kid, again: true}, all)
	}
	fresh := all
	for n := lo; n < hi && fresh != (places{}); n++ {
		fresh = s.after(once, fresh).less(all)
		all = all.with(fresh)
	}
	return all
}

package sample

import (
	"doublet/api"
	"doublet/sets"
)

// Listed: words, by their lengths; there is a place for each length up to some.
type Listed []map[string]struct{}

// Has: is a word among those of l?
func (l Listed) Has(w string) bool {
	if len(w) >= len(l) {
		return false
	}
	_, ok := l[len(w)][w]
	return ok
}

func (l Listed) put(w string) {
	if l[len(w)] == nil {
		l[len(w)] = map[string]struct{}{}
	}
	l[len(w)][w] = struct{}{}
}

func (l Listed) putAll(others Listed) {
	for _, some := range others {
		for w := range some {
			l.put(w)
		}
	}
}

// behind: words of l, and behind each one of others, where there is a place for them.
func (l Listed) behind(others Listed) Listed {
	made := make(Listed, len(l))
	for m, some := range l {
		for n := range len(l) - m {
			for w := range some {
				for v := range others[n] {
					made.put(w + v)
				}
			}
		}
	}
	return made
}

// repeated: from lo to hi words of l, one behind the other.
func (l Listed) repeated(lo, hi int) Listed {
	made, some := make(Listed, len(l)), make(Listed, len(l))
	some.put("")
	if hi == -1 {
		// With more of them some would be empty, and could as well be left out.
		hi = lo + len(l)
	}
	for n := 0; n <= hi; n++ {
		if n >= lo {
			made.putAll(some)
		}
		some = some.behind(l)
	}
	return made
}

// Words: all words of up to most bytes that a tree says.
func Words(x api.Node, most int) Listed {
	made := make(Listed, most+1)
	var kids []Listed
	for _, kid := range x.Kids {
		kids = append(kids, Words(kid, most))
	}
	switch x.Kind {
	case api.KindEmpty:
		made.put("")
	case api.KindSet:
		for n := range 256 {
			if most > 0 && sets.Has(x.Set, byte(n)) {
				made.put(string([]byte{byte(n)}))
			}
		}
	case api.KindCat:
		made.put("")
		for _, kid := range kids {
			made = made.behind(kid)
		}
	case api.KindAlt:
		for _, kid := range kids {
			made.putAll(kid)
		}
	case api.KindStar:
		made = kids[0].repeated(0, -1)
	case api.KindPlus:
		made = kids[0].repeated(1, -1)
	case api.KindOpt:
		made = kids[0].repeated(0, 1)
	case api.KindRep:
		made = kids[0].repeated(x.Lo, x.Hi)
	}
	return made
}

package sample

import (
	"doublet/api"
	"doublet/sets"
)

// Listed: words, by their lengths; there is a place for each length up to some.
type Listed []map[string]struct{}

// Has: is a word among those of l?
func (l Listed) Has(w string) bool {
	if len(w) >= len(l) {
		return false
	}
	_, ok := l[len(w)][w]
	return ok
}

func (l Listed) put(w string) {
	if l[len(w)] == nil {
		l[len(w)] = map[string]struct{}{}
	}
	l[len(w)][w] = struct{}{}
}

func (l Listed) putAll(others Listed) {
	for _, some := range others {
		for w := range some {
			l.put(w)
		}
	}
}

// behind: words of l, and behind each one of others, where there is a place for them.
func (l Listed) behind(others Listed) Listed {
	made := make(Listed, len(l))
	for m, some := range l {
		for n := range len(l) - m {
			for w := range some {
				for v := range others[n] {
					made.put(w + v)
				}
			}
		}
	}
	return made
}

// repeated: from lo to hi words of l, one behind the other.
func (l Listed) repeated(lo, hi int) Listed {
	made, some := make(Listed, len(l)), make(Listed, len(l))
	some.put("")
	if hi == -1 {
		// With more of them some would be empty, and could as well be left out.
		hi = lo + len(l)
	}
	for n := 0; n <= hi; n++ {
		if n >= lo {
			made.putAll(some)
		}
		some = some.behind(l)
	}
	return made
}

// Words: all words of up to most bytes that a tree says.
func Words(x api.Node, most int) Listed {
	made := make(Listed, most+1)
	var kids []Listed
	for _, kid := range x.Kids {
		kids = append(kids, Words(kid, most))
	}
	switch x.Kind {
	case api.KindEmpty:
		made.put("")
	case api.KindSet:
		for n := range 256 {
			if most > 0 && sets.Has(x.Set, byte(n)) {
				made.put(string([]byte{byte(n)}))
			}
		}
	case api.KindCat:
		made.put("")
		for _, kid := range kids {
			made = made.behind(kid)
		}
	case api.KindAlt:
		for _, kid := range kids {
			made.putAll(kid)
		}
	case api.KindStar:
		made = kids[0].repeated(0, -1)
	case api.KindPlus:
		made = kids[0].repeated(1, -1)
	case api.KindOpt:
		made = kids[0].repeated(0, 1)
	case api.KindRep:
		made = kids[0].repeated(x.Lo, x.Hi)
	}
	return made
}

// AllWords: all words of up to so many bytes, of the bytes of a text; they are ordered, if these rise.
func AllWords(bytes string, most int) []string {
	l := []string{""}
	for from, n := 0, 0; n < most; n++ {
		upto := len(l)
		for _, w := range l[from:upto] {
			for i := range len(bytes) {
				l = append(l, w+bytes[i:i+1])
			}
		}
		from = upto
	}
	return l
}

// AnyWord: a word of n of a text's bytes.
func AnyWord(n int, bytes string, next func(most int) int) string {
	w := make([]byte, n)
	for i := range w {
		w[i] = bytes[next(len(bytes))]
	}
	return string(w)
}

// Spoken: a word that a tree says, of at most so many bytes; none, if there is none, or chance does not find it.
func Spoken(x api.Node, most int, next func(most int) int) (string, bool) {
	lo, more := 0, 3
	switch x.Kind {
	case api.KindNone:
		return "", false
	case api.KindEmpty:
		return "", true
	case api.KindSet:
		l := sets.Bytes(x.Set)
		if len(l) == 0 || most < 1 {
			return "", false
		}
		return string([]byte{l[next(len(l))]}), true
	case api.KindCat:
		w := ""
		for _, kid := range x.Kids {
			v, ok := Spoken(kid, most-len(w), next)
			if !ok {
				return "", false
			}
			w += v
		}
		return w, true
	case api.KindAlt:
		return Spoken(x.Kids[next(len(x.Kids))], most, next)
	case api.KindPlus:
		lo = 1
	case api.KindOpt:
		more = 1
	case api.KindRep:
		lo = x.Lo
		if x.Hi != -1 {
			more = min(more, x.Hi-x.Lo)
		}
	}
	w := ""
	for n := range lo + next(more+1) {
		v, ok := Spoken(x.Kids[0], most-len(w), next)
		if !ok && n < lo {
			return "", false
		}
		if w += v; v == "" {
			// As many more could be so; or there was no more.
			break
		}
	}
	return w, true
}

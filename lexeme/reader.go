package lexeme

import (
	"strings"

	"doublet/api"
	"doublet/class"
	"doublet/num"
	"doublet/sets"
)

// A reader goes from lexeme to lexeme: at is the place where the next one begins.
type reader struct {
	b  []byte
	at int
}

// begun: the way to read the lexeme that the next byte begins, but for its place.
// What reads it goes past it; of what is wrong nothing is gone past.
func (r *reader) begun() func() (api.Lexeme, api.Bad) {
	switch r.b[r.at] {
	case '(', ')', '|', '*', '+', '?':
		return r.sign
	case '.':
		return r.any
	case '\\':
		return r.escape
	case '[':
		return r.class
	case '{':
		return r.rep
	case ']', '}', '\n':
		return r.stray
	}
	return r.itself
}

func (r *reader) sign() (api.Lexeme, api.Bad) {
	place := strings.IndexByte(signs, r.b[r.at])
	r.at++
	return api.Lexeme{Kind: api.LexOpen + api.LexKind(place)}, api.Bad{}
}

func (r *reader) any() (api.Lexeme, api.Bad) { return r.pass(dot(), r.at+1, api.Bad{}) }

func (r *reader) itself() (api.Lexeme, api.Bad) {
	return r.pass(sets.Of(r.b[r.at]), r.at+1, api.Bad{})
}

func (r *reader) escape() (api.Lexeme, api.Bad) {
	c, behind, bad := class.Escape(r.b, r.at)
	return r.pass(sets.Of(c), behind, bad)
}

func (r *reader) class() (api.Lexeme, api.Bad) { return r.pass(class.Read(r.b, r.at)) }

// stray: a byte that begins nothing.
func (r *reader) stray() (api.Lexeme, api.Bad) {
	return api.Lexeme{}, api.Bad{Kind: api.ErrForm, At: r.at}
}

// pass goes on behind a set that was read, unless that was wrong.
func (r *reader) pass(s api.Set, behind int, bad api.Bad) (api.Lexeme, api.Bad) {
	if bad != (api.Bad{}) {
		return api.Lexeme{}, bad
	}
	r.at = behind
	return api.Lexeme{Kind: api.LexSet, Set: s}, api.Bad{}
}

// rep: {n}, {n,}, or {n,m}.
func (r *reader) rep() (api.Lexeme, api.Bad) {
	lo, hi, behind := r.bounds()
	if behind == 0 {
		return api.Lexeme{}, api.Bad{Kind: api.ErrRep, At: r.at}
	}
	if hi != endless && lo > hi {
		return api.Lexeme{}, api.Bad{Kind: api.ErrOrder, At: r.at}
	}
	r.at = behind
	return api.Lexeme{Kind: api.LexRep, Lo: lo, Hi: hi}, api.Bad{}
}

// bounds: the numbers between the { that is next and its }, and the place behind that; all 0: it has no such form.
func (r *reader) bounds() (lo, hi, behind int) {
	number := func(at int) (n, behind int, ok bool) {
		n, behind, err := num.Take(r.b, at, api.MaxRep)
		return n, behind, err == api.OK
	}
	lo, at, ok := number(r.at + 1)
	if !ok {
		return 0, 0, 0
	}
	hi = lo
	if r.stands(at, ',') {
		at++
		hi = endless
		if !r.stands(at, '}') {
			hi, at, ok = number(at)
		}
	}
	if !ok || !r.stands(at, '}') {
		return 0, 0, 0
	}
	return lo, hi, at + 1
}

// stands: is c the byte at a place that is not below 0?
func (r *reader) stands(at int, c byte) bool { return at < len(r.b) && r.b[at] == c }

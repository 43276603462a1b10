package class

import (
	"strings"

	"doublet/api"
	"doublet/sets"
)

// A reader goes from byte to byte.
type reader struct {
	b  []byte
	at int
}

// ended: is there no byte left?
func (r *reader) ended() bool { return r.at == len(r.b) }

// skip goes past c, if it is the next byte, and tells whether it was.
func (r *reader) skip(c byte) bool {
	if !stands(r.b, r.at, c) {
		return false
	}
	r.at++
	return true
}

// items reads the items of the class that begins at from.
type items struct {
	reader
	from int
}

// all: what the items say, up to the ], which is gone past.
func (r *items) all() (api.Set, api.Bad) {
	var s api.Set
	// An item is read ahead of asking for the ], for there is one at least.
	for {
		item, bad := r.item()
		if bad != (api.Bad{}) {
			return api.Set{}, bad
		}
		s = sets.Union(s, item)
		if r.skip(']') {
			return s, api.Bad{}
		}
	}
}

// item: a char, or all bytes from a char to another one.
func (r *items) item() (api.Set, api.Bad) {
	begin := r.at
	first, bad := r.char()
	if bad != (api.Bad{}) {
		return api.Set{}, bad
	}
	if !r.skip('-') {
		return sets.Of(first), api.Bad{}
	}
	last, bad := r.char()
	if bad != (api.Bad{}) {
		return api.Set{}, bad
	}
	if first > last {
		return api.Set{}, api.Bad{Kind: api.ErrOrder, At: begin}
	}
	return sets.Span(first, last), api.Bad{}
}

// char: a byte that stands for itself, or an escape.
func (r *items) char() (byte, api.Bad) {
	if r.ended() {
		return 0, api.Bad{Kind: api.ErrClass, At: r.from}
	}
	c := r.b[r.at]
	if c == '\\' {
		return r.escape()
	}
	if c == '\n' || strings.IndexByte(marks, c) >= 0 {
		return 0, api.Bad{Kind: api.ErrClass, At: r.at}
	}
	r.at++
	return c, api.Bad{}
}

// escape: the byte that the escape ahead says.
func (r *items) escape() (byte, api.Bad) {
	c, behind, bad := Escape(r.b, r.at)
	if bad != (api.Bad{}) {
		return 0, bad
	}
	r.at = behind
	return c, api.Bad{}
}

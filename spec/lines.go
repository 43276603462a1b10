package spec

import (
	"bytes"
	"iter"

	"doublet/api"
	"doublet/parse"
)

// names: those that rules have.
type names map[string]struct{}

// add tells whether a name was not there yet; then it is.
func (taken names) add(name string) bool {
	if _, there := taken[name]; there {
		return false
	}
	taken[name] = struct{}{}
	return true
}

// front: how many bytes there are, from the first one on, that can stand in a Name where they do.
func front[T string | []byte](text T) int {
	n := 0
	for n < len(text) && (letter(text[n]) || n > 0 && digit(text[n])) {
		n++
	}
	return n
}

// letter: may a Name begin with a byte?
func letter(c byte) bool { return 'a' <= c && c <= 'z' || 'A' <= c && c <= 'Z' || c == '_' }

func digit(c byte) bool { return '0' <= c && c <= '9' }

// lines goes through the lines of a text, each with the place where it begins.
func lines(b []byte) iter.Seq2[int, []byte] {
	return func(yield func(int, []byte) bool) {
		for at := 0; at < len(b); {
			line, _, _ := bytes.Cut(b[at:], []byte("\n"))
			if !yield(at, line) {
				return
			}
			at += len(line) + 1
		}
	}
}

// rule: that of a line that says something; its name is then taken. What is wrong is told by its place in the line.
func rule(line []byte, taken names) (api.Rule, api.Bad) {
	n := front(line)
	switch {
	case n == 0:
		return api.Rule{}, api.Bad{Kind: api.ErrName}
	case n > api.MaxName:
		return api.Rule{}, api.Bad{Kind: api.ErrName, At: api.MaxName}
	case n == len(line) || line[n] != ':':
		return api.Rule{}, api.Bad{Kind: api.ErrColon, At: n}
	}
	name := string(line[:n])
	if !taken.add(name) {
		return api.Rule{}, api.Bad{Kind: api.ErrTwice}
	}
	body, bad := parse.Text(line[n+1:])
	if bad != (api.Bad{}) {
		bad.At += n + 1
		return api.Rule{}, bad
	}
	return api.Rule{Name: name, Body: body}, api.Bad{}
}

package facts

import (
	"bytes"
	"cmp"
	"slices"

	"doublet/api"
	"doublet/num"
	"doublet/sets"
)

// word is one that is not written yet, so that one of many bytes is made of few parts: these one behind the other, and all that so many times; of one without parts it is a letter.
type word struct {
	size   int
	letter byte
	parts  []word
	times  int
}

// leastWords tells least words. None, and those of more than most bytes, are of one size that is above most, and never written.
func leastWords(most int) byKind[word] {
	past := most + 1
	row := func(times int, l ...word) word {
		size := 0
		for _, w := range l {
			size = num.Add(past, size, w.size)
		}
		return word{size: num.Mul(past, times, size), parts: l, times: times}
	}
	return byKind[word]{
		set: func(s api.Set) word {
			if s == (api.Set{}) {
				return word{size: past}
			}
			return word{size: 1, letter: byte(sets.Least(s))}
		},
		cat: func(l ...word) word { return row(1, l...) },
		alt: func(l ...word) word {
			l = slices.DeleteFunc(l, func(w word) bool { return w.size == past })
			if len(l) == 0 {
				return word{size: past}
			}
			return slices.MinFunc(l, word.against)
		},
		rep: func(kid word, lo, _ int) word { return row(lo, kid) },
	}
}

// against: below 0, 0, or above 0, as w is ordered ahead of another one, the same, or behind it.
func (w word) against(other word) int {
	if w.size != other.size {
		return cmp.Compare(w.size, other.size)
	}
	return bytes.Compare(w.text(), other.text())
}

// text: w, written.
func (w word) text() []byte { return w.put(make([]byte, 0, w.size)) }

// put writes w behind a text.
func (w word) put(text []byte) []byte {
	switch {
	case w.size == 0:
		return text
	case len(w.parts) == 0:
		return append(text, w.letter)
	}
	from := len(text)
	for _, part := range w.parts {
		text = part.put(text)
	}
	once := text[from:]
	for range w.times - 1 {
		text = append(text, once...)
	}
	return text
}

package sample

import (
	"strings"

	"doublet/api"
)

// WithLabels: the same machine with other labels, and the names that a text has.
func WithLabels(d api.Dfa, names string, labels []int) api.Dfa {
	d.Names, d.Label = strings.Fields(names), labels
	return d
}

// Row: a machine of one class whose states lead from each one to the next, and the last one to itself, the only one with a label, if there are others. No two states are alike.
func Row(states int) api.Dfa {
	d := Quiet(states, 1)
	for s, row := range d.Next {
		row[0] = min(s+1, states-1)
	}
	return WithLabels(d, "x", By(states, func(s int) int { return s / max(states-1, 1) }))
}

// Shifted: a machine whose states are the words of so many bits: by each of two classes one bit comes, and the first one goes; the first one is told. No two states are alike.
func Shifted(bits int) api.Dfa {
	states := 1 << bits
	d := Quiet(states, 2)
	for s, row := range d.Next {
		row[0] = s << 1 % states
		row[1] = row[0] + 1
	}
	return WithLabels(d, "x", By(states, func(s int) int { return s >> (bits - 1) }))
}

// Bitwise: a machine with a class for each of so many bits, of whose numbers each is a state that leads to itself by the bits that it has, and else to 0, which alone has a label. No two states are alike.
func Bitwise(bits int) api.Dfa {
	d := Quiet(1<<bits, bits)
	for s, row := range d.Next {
		for class := range row {
			row[class] = s * (s >> class & 1)
		}
	}
	return WithLabels(d, "x", By(1<<bits, func(s int) int { return 1 - min(s, 1) }))
}

// Renumbered: the same machine, with each state at another one's place; 0 may be any one of them.
func Renumbered(d api.Dfa, places []int) api.Dfa {
	x := d
	x.Next, x.Label = make([][]int, len(places)), Moved(d.Label, places)
	for s, place := range places {
		x.Next[place] = By(d.Width, func(class int) int { return places[d.Next[s][class]] })
	}
	return x
}

// Moved: the same numbers, each at another one's place.
func Moved(l, places []int) []int {
	x := make([]int, len(l))
	for s, place := range places {
		x[place] = l[s]
	}
	return x
}

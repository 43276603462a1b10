package label

import (
	"slices"

	"doublet/api"
	"doublet/dfa"
)

// fit: may a machine have these names?
func fit(l []string) bool {
	// Nothing but its names can be wrong with this one.
	return dfa.Right(api.Dfa{Width: 1, Next: [][]int{{0}}, Label: []int{0}, Names: l})
}

// used: the names of labels that a state has, rising.
func used(d api.Dfa) []string {
	var told []string
	for _, label := range d.Label {
		if label != 0 {
			told = append(told, d.Names[label-1])
		}
	}
	return Union(told)
}

// named: a machine with other names, each label being the place of its name among these; 0, if it is not there.
func named(d api.Dfa, l []string) api.Dfa {
	places := []int{0}
	for _, name := range d.Names {
		places = append(places, slices.Index(l, name)+1)
	}
	return changed(d, l, func(label int) int { return places[label] })
}

// changed: a machine in memory of its own, with other names, and each label changed.
func changed(d api.Dfa, names []string, change func(label int) int) api.Dfa {
	made := api.Dfa{Of: d.Of, Width: d.Width, Names: slices.Clone(names)}
	for s, row := range d.Next {
		made.Next = append(made.Next, slices.Clone(row))
		made.Label = append(made.Label, change(d.Label[s]))
	}
	return made
}

package dfa

import (
	"slices"

	"doublet/api"
	"doublet/spec"
)

// rightNames: may a machine have these names?
func rightNames(l []string) bool {
	if len(l) > api.MaxRules {
		return false
	}
	for i, name := range l {
		if !spec.Name(name) || slices.Contains(l[:i], name) {
			return false
		}
	}
	return true
}

// rightLabels: are these labels of as many states as may be, each one of so many names, or 0?
func rightLabels(l []int, names int) bool {
	wrong := func(label int) bool { return label < 0 || label > names }
	return len(l) >= 1 && len(l) <= api.MaxStates && !slices.ContainsFunc(l, wrong)
}

// rightRows: is there a row for each of so many states, of so many of these?
func rightRows(l [][]int, states, width int) bool {
	if len(l) != states {
		return false
	}
	for _, row := range l {
		if len(row) != width {
			return false
		}
		// There may be millions: a loop takes a fifth of the time that a function handed over does.
		for _, s := range row {
			if !within(s, states) {
				return false
			}
		}
	}
	return true
}

// within: is s one of so many states?
func within(s, states int) bool { return 0 <= s && s < states }

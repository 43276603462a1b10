package hopcroft

import "doublet/api"

// byLabels: blocks of the states that have one label.
func byLabels(d api.Dfa) *partition {
	p := together(len(d.Label))
	for label := range len(d.Names) + 1 {
		for s, one := range d.Label {
			if one == label {
				p.mark(uint16(s))
			}
		}
		p.part()
	}
	return p
}

// refine parts blocks by each one that waits: into the states that a class leads there, and the others.
func (p *partition) refine(d api.Dfa) {
	leads := ahead(d)
	// Where each state is alone no block can be parted, however many wait.
	for len(p.pieces) < len(p.blocks) {
		states, ok := p.take()
		if !ok {
			return
		}
		for class := range d.Width {
			for _, to := range states {
				for _, s := range leads(class, to) {
					p.mark(s)
				}
			}
			p.part()
		}
	}
}

// ahead tells the states that a class leads to one.
func ahead(d api.Dfa) func(class int, to uint16) []uint16 {
	states := len(d.Label)
	// Those of each class and state stand side by side: from its start on, up to that of the next ones.
	starts := make([]int32, d.Width*states+1)
	for _, row := range d.Next {
		for class, to := range row {
			starts[class*states+to]++
		}
	}
	// So far these are how many there are; now, where they end; and with each one that is put there, where they start.
	for at := range d.Width * states {
		starts[at+1] += starts[at]
	}
	from := make([]uint16, d.Width*states)
	for s, row := range d.Next {
		for class, to := range row {
			start := &starts[class*states+to]
			*start--
			from[*start] = uint16(s)
		}
	}
	return func(class int, to uint16) []uint16 {
		at := class*states + int(to)
		return from[starts[at]:starts[at+1]:starts[at+1]]
	}
}

package hopcroft

import "doublet/api"

// partition: all states of a machine, in blocks. Some states are marked, and then each block is parted into those and the others.
type partition struct {
	// states: those of each block side by side, the marked ones first.
	states []uint16
	// places and blocks: where each state stands there, and in which block it is.
	places, blocks []int
	pieces         []piece
	// touched: the blocks that have marked states. waiting: those that may part others.
	touched, waiting []int
}

// piece: where the states of a block stand, and how many of them are marked.
type piece struct{ from, upto, marked int }

func (x piece) size() int { return x.upto - x.from }

// together: so many states in one block. It does not wait: by each class every state leads there, so that it tells none apart.
func together(states int) *partition {
	p := &partition{states: room(states), places: make([]int, states), blocks: make([]int, states), pieces: []piece{{upto: states}}}
	for s := range states {
		p.states[s], p.places[s] = uint16(s), s
	}
	return p
}

// room: an array's piece for so many states. There are no more of them than 16 bits have numbers for.
func room(states int) []uint16 {
	// Most machines have few, for which the great array would take longer than all else.
	const few = 256
	if states <= few {
		return new([few]uint16)[:states:states]
	}
	return new([api.MaxStates]uint16)[:states:states]
}

// block: the states of a block.
func (p *partition) block(number int) []uint16 {
	at := p.pieces[number]
	return p.states[at.from:at.upto:at.upto]
}

// mark puts a state, which is not marked yet, behind those of its block that are.
func (p *partition) mark(s uint16) {
	number := p.blocks[s]
	block := &p.pieces[number]
	if block.marked == 0 {
		p.touched = append(p.touched, number)
	}
	from, to := p.places[s], block.from+block.marked
	other := p.states[to]
	p.states[from], p.places[other] = other, from
	p.states[to], p.places[s] = s, to
	block.marked++
}

// part makes two blocks of each one that has marked states, and others; none is marked any more.
//
// The one with fewer states is new, and waits. The other one waits on, if both together did; else these have parted all that they can, and what it would tell apart the new one does. So a state comes to part others only as often as blocks can be halved.
func (p *partition) part() {
	for _, number := range p.touched {
		block := p.pieces[number]
		cut := block.from + block.marked
		fewer, more := piece{from: block.from, upto: cut}, piece{from: cut, upto: block.upto}
		if fewer.size() > more.size() {
			fewer, more = more, fewer
		}
		if p.pieces[number] = more; fewer.size() > 0 {
			p.add(fewer)
		}
	}
	p.touched = p.touched[:0]
}

// add: a new block, which waits.
func (p *partition) add(block piece) {
	number := len(p.pieces)
	p.pieces = append(p.pieces, block)
	p.waiting = append(p.waiting, number)
	for _, s := range p.block(number) {
		p.blocks[s] = number
	}
}

// take: the states of the block that waits since the shortest time, which waits no more; false, if there is none.
//
// They are a copy: blocks that are parted meanwhile may be this one, too.
func (p *partition) take() ([]uint16, bool) {
	last := len(p.waiting) - 1
	if last < 0 {
		return nil, false
	}
	states := append([]uint16(nil), p.block(p.waiting[last])...)
	p.waiting = p.waiting[:last]
	return states, true
}

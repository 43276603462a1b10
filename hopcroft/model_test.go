package hopcroft

import (
	"slices"
	"testing"

	"doublet/api"
	"doublet/dfa"
	"doublet/sample"
)

// The model takes the chapter's sentences one by one. Whether a machine may be is asked of package dfa, of which a model was held ahead; which words tell two states apart, of package sample.

// modelBlocks: normal blocks of states that no word tells apart.
func modelBlocks(d api.Dfa) []int {
	if !dfa.Right(d) {
		return nil
	}
	apart := sample.Apart(d)
	return sample.Grouped(len(apart), func(s, other int) bool { return apart[s][other] < 0 })
}

// modelSplits: how many blocks there are, less how many labels.
func modelSplits(d api.Dfa) int {
	if !dfa.Right(d) {
		return -1
	}
	blocks, labels := 0, 0
	l := modelBlocks(d)
	for s := range d.Label {
		if !slices.Contains(l[:s], l[s]) {
			blocks++
		}
		if !slices.Contains(d.Label[:s], d.Label[s]) {
			labels++
		}
	}
	return blocks - labels
}

// modelTrim: the states to which words lead, as they are met, numbered so.
func modelTrim(d api.Dfa) api.Dfa {
	met := ints(0)
	for at := 0; at < len(met); at++ {
		for _, to := range d.Next[met[at]] {
			if !slices.Contains(met, to) {
				met = append(met, to)
			}
		}
	}
	x := d
	x.Next, x.Label = nil, nil
	for _, s := range met {
		x.Next = append(x.Next, by(d.Width, func(class int) int { return slices.Index(met, d.Next[s][class]) }))
		x.Label = append(x.Label, d.Label[s])
	}
	return x
}

// modelSmall: of these a state for each block, by its number; it goes on as the last one of the block does.
func modelSmall(d api.Dfa) (api.Dfa, api.Errno) {
	if !dfa.Right(d) {
		return api.Dfa{}, 6
	}
	trimmed := modelTrim(d)
	blocks := modelBlocks(trimmed)
	x := d
	x.Next, x.Label = nil, nil
	for block := range slices.Max(blocks) + 1 {
		s := len(blocks) - 1
		for blocks[s] != block {
			s--
		}
		x.Next = append(x.Next, by(d.Width, func(class int) int { return blocks[trimmed.Next[s][class]] }))
		x.Label = append(x.Label, trimmed.Label[s])
	}
	return x, 0
}

// met: how often a machine may not be; how often some states were alike, all, none; how often Small had fewer states than blocks, one, and as many as states; how often there were so many splits.
type met struct {
	wrong, some, all, none int
	trimmed, one, same     int
	splits                 map[int]int
}

// holdModelled: each call on a machine tells what the model does.
func holdModelled(t *testing.T, d api.Dfa, m *met) {
	t.Helper()
	want := modelBlocks(d)
	holdBlocks(t, Blocks(d), want, "Blocks of %s", brief(d))
	splits := modelSplits(d)
	holdSplits(t, d, splits)
	m.splits[splits]++
	small, wrong := modelSmall(d)
	if wrong != 0 {
		m.wrong++
		holdNone(t, d)
		return
	}
	holdDfa(t, told(Small(d)), small, "Small of %s", brief(d))
	blocks, states := slices.Max(want)+1, len(small.Label)
	count := func(times *int, is bool) {
		if is {
			*times++
		}
	}
	count(&m.all, blocks == 1)
	count(&m.none, blocks == len(d.Label))
	count(&m.some, blocks > 1 && blocks < len(d.Label))
	count(&m.trimmed, states < blocks)
	count(&m.one, states == 1)
	count(&m.same, states == len(d.Label))
}

// Random machines, with states that are alike, and without, that may be, and may not.
func TestModelledRandom(t *testing.T) {
	t.Parallel()
	next := sample.Chances()
	m := met{splits: map[int]int{}}
	for i := range 8000 {
		d, _ := sample.AnyUnfolded(1+i%16, next)
		switch i % 6 {
		case 0:
			d = sample.SpoiltDfa(d, next)
		case 1:
			// All states have labels by chance, or one alone has one.
			d = withLabels(d, "x y", sample.Many(len(d.Label), func() int { return next(3) }))
		case 2:
			d = withLabels(d, "x", make([]int, len(d.Label)))
			d.Label[next(len(d.Label))] = 1
		case 3:
			// A row, with one state that leads elsewhere.
			states := 2 + next(16)
			d = renumbered(withNext(row(states), next(states), 0, next(states)), sample.Shuffled(upTo(0, states), next))
		case 4:
			d = withMore(d, next(5), next)
		}
		if holdModelled(t, d, &m); t.Failed() {
			return
		}
	}
	if min(m.wrong, m.some, m.all, m.none, m.trimmed, m.one, m.same) < 500 || min(m.splits[-1], m.splits[0], m.splits[1], m.splits[2], m.splits[3], 2*m.splits[6], 4*m.splits[10]) < 200 {
		t.Errorf("so often there was: %+v", m)
	}
}

// All small machines, of one state and of two, with up to three classes, of three, with up to two, and of four, with one.
func TestModelledSmall(t *testing.T) {
	t.Parallel()
	m := met{splits: map[int]int{}}
	machines := 0
	for _, size := range [][3]int{{1, 1, 2}, {1, 3, 2}, {2, 1, 2}, {2, 2, 2}, {2, 3, 1}, {3, 1, 2}, {3, 2, 1}, {4, 1, 1}} {
		sample.EachDfa(size[0], size[1], size[2], func(d api.Dfa) {
			if machines++; !t.Failed() {
				holdModelled(t, d, &m)
			}
		})
	}
	if machines != 3+3+9*4+9*16+4*64+27*27+8*729+16*256 || min(m.some, m.all, m.none, m.trimmed, m.one, m.same, m.splits[0], m.splits[1]) < 1000 || m.splits[2] < 100 || len(m.splits) != 3 {
		t.Errorf("there are %d machines, and so often there was: %+v", machines, m)
	}
}

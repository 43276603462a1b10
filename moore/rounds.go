package moore

import (
	"iter"
	"slices"

	"doublet/api"
	"doublet/dfa"
	"doublet/quotient"
)

// rounds goes through normal blocks of the states that are alike up to no byte, up to one, and so on, while a round tells more; of a machine that may not be there are none.
func rounds(d api.Dfa) iter.Seq[[]int] {
	return func(yield func(blocks []int) bool) {
		if !dfa.Right(d) {
			return
		}
		blocks := quotient.Norm(d.Label)
		for yield(blocks) {
			finer := round(d, blocks)
			// Both are normal: so they are the same blocks just if they are the same numbers.
			if slices.Equal(finer, blocks) {
				return
			}
			blocks = finer
		}
	}
}

// round: normal blocks of states that are in one block, and that each class leads to one block.
func round(d api.Dfa, blocks []int) []int {
	joined := slices.Clone(blocks)
	for class := range d.Width {
		join(joined, func(s int) int { return blocks[d.Next[s][class]] })
	}
	return joined
}

// none: no block.
const none = -1

// join parts normal blocks by what is said of each state, and leaves them normal.
//
// It is quotient.Join but for the time: of most states is said what was of the one ahead in their block, so that a map is asked for few.
func join(blocks []int, says func(s int) int) {
	latest := slices.Repeat([]int{none}, len(blocks))
	var told []int
	met := map[[2]int]int{}
	for s, block := range blocks {
		said, part := says(s), latest[block]
		if part == none {
			part = len(told)
			told = append(told, said)
		} else if told[part] != said {
			met[[2]int{block, told[part]}] = part
			other, ok := met[[2]int{block, said}]
			if !ok {
				other = len(told)
				told = append(told, said)
			}
			part = other
		}
		latest[block], blocks[s] = part, part
	}
}

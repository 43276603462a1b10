package moore

import (
	"slices"
	"testing"

	"doublet/api"
	"doublet/dfa"
	"doublet/quotient"
	"doublet/sample"
)

// The model takes the chapter's sentences one by one. Whether a machine may be, and which blocks are Stable or finer, is asked of packages dfa and quotient, of which models were held ahead.

// alikeUpTo: normal blocks of states that no word of at most so many bytes tells apart.
func alikeUpTo(apart [][]int, k int) []int {
	return sample.Grouped(len(apart), func(s, other int) bool { return apart[s][other] < 0 || apart[s][other] > k })
}

// met: how often a machine may not be; how often there were so many rounds; how often some states were alike, all, none.
type met struct {
	wrong, some, all, none int
	rounds                 map[int]int
}

// holdModelled: each call on a machine tells what the model does.
func holdModelled(t *testing.T, d api.Dfa, m *met) {
	t.Helper()
	if !dfa.Right(d) {
		m.wrong++
		holdNone(t, d)
		return
	}
	apart := sample.Apart(d)
	// Two that are alike up to as many bytes as tell any two apart are alike.
	rounds := max(0, slices.Max(slices.Concat(apart...)))
	var told [][]int
	for k := range rounds + 1 {
		told = append(told, alikeUpTo(apart, k))
	}
	holdTold(t, d, told...)
	m.rounds[rounds]++
	switch slices.Max(told[rounds]) + 1 {
	case len(d.Label):
		m.none++
	case 1:
		m.all++
	default:
		m.some++
	}
}

// Random machines, with states that are alike, and without, that may be, and may not.
func TestModelledRandom(t *testing.T) {
	t.Parallel()
	next := sample.Chances()
	m := met{rounds: map[int]int{}}
	for i := range 6000 {
		d, _ := sample.AnyUnfolded(1+i%16, next)
		switch i % 5 {
		case 0:
			d = sample.SpoiltDfa(d, next)
		case 1:
			// All states have labels by chance, or one alone has one.
			d.Names = called(2)
			d.Label = by(len(d.Label), func(int) int { return next(3) })
		case 2:
			d.Names, d.Label = called(1), make([]int, len(d.Label))
			d.Label[next(len(d.Label))] = 1
		case 3:
			// A row, with one state that leads elsewhere.
			states := 2 + next(16)
			d = renumbered(withNext(row(states), next(states), 0, next(states)), sample.Shuffled(upTo(0, states), next))
		}
		if holdModelled(t, d, &m); t.Failed() {
			return
		}
	}
	if min(m.wrong, m.some, m.all, m.none) < 500 || min(m.rounds[0], m.rounds[1], m.rounds[2], m.rounds[3], 2*m.rounds[5], 4*m.rounds[10]) < 200 {
		t.Errorf("so often there was: %+v", m)
	}
}

// wordsAlike: normal blocks of states behind which all words of at most so many bytes, one of each class, lead to the same labels.
func wordsAlike(d api.Dfa, k int) []int {
	bytes := make([]byte, d.Width)
	for b, class := range d.Of {
		bytes[class] = byte(b)
	}
	told := make([]string, len(d.Label))
	for _, w := range sample.AllWords(string(bytes), k) {
		for s := range told {
			at := s
			for i := range len(w) {
				at = d.Next[at][d.Of[w[i]]]
			}
			told[s] += string(rune('0' + d.Label[at]))
		}
	}
	return sample.Grouped(len(told), func(s, other int) bool { return told[s] == told[other] })
}

// All small machines, of one state and of two, with up to three classes, of three, with up to two, and of four, with one: by words, written out one by one, and by the model.
func TestModelledSmall(t *testing.T) {
	t.Parallel()
	m := met{rounds: map[int]int{}}
	machines := 0
	for _, size := range [][3]int{{1, 1, 2}, {1, 3, 2}, {2, 1, 2}, {2, 2, 2}, {2, 3, 1}, {3, 1, 2}, {3, 2, 1}, {4, 1, 1}} {
		states := size[0]
		sample.EachDfa(states, size[1], size[2], func(d api.Dfa) {
			if machines++; t.Failed() {
				return
			}
			holdModelled(t, d, &m)
			// Words of more bytes than there are states tell no more.
			all := wordsAlike(d, states+1)
			holdBlocks(t, Blocks(d), all, "Blocks of %s", brief(d))
			least := -1
			for k := range states + 1 {
				some := wordsAlike(d, k)
				if holdAfter(t, d, k, some); least < 0 && slices.Equal(some, all) {
					least = k
				}
			}
			if Rounds(d) != least {
				t.Errorf("there are %d rounds, want %d, of %s", Rounds(d), least, brief(d))
			}
		})
	}
	if machines != 3+3+9*4+9*16+4*64+27*27+8*729+16*256 || min(m.some, m.all, m.none, m.rounds[0], m.rounds[1]) < 1000 || m.rounds[2] < 100 || len(m.rounds) != 3 {
		t.Errorf("there are %d machines, and so often there was: %+v", machines, m)
	}
}

// Rounds tell no more: of random machines After tells the same from Rounds on, and another thing ahead of it; each round is finer than the one ahead.
func TestP2403Random(t *testing.T) {
	t.Parallel()
	next := sample.Chances()
	rounds := map[int]int{}
	for i := range 600 {
		d := sample.AnyDfa(1+i%60, next)
		d.Names, d.Label = called(1), make([]int, len(d.Label))
		d.Label[next(len(d.Label))] = next(2)
		told, blocks := Rounds(d), Blocks(d)
		if told < 0 || told >= len(d.Label) {
			t.Errorf("there are %d rounds of %s", told, brief(d))
		}
		for _, more := range ints(0, 1, 2, 3, 100, greatest-told) {
			holdAfter(t, d, told+more, blocks)
		}
		ahead := After(d, 0)
		for k := 1; k <= told; k++ {
			l := After(d, k)
			if slices.Equal(l, ahead) || !quotient.Finer(l, ahead) || quotient.Finer(ahead, l) {
				t.Errorf("After of %d is %s, and of one less %s, of %s", k, many(l), many(ahead), brief(d))
			}
			ahead = l
		}
		if rounds[min(told, 4)]++; t.Failed() {
			return
		}
	}
	if min(rounds[0], rounds[1], rounds[2], rounds[3], rounds[4]) < 30 {
		t.Errorf("so often there were so many rounds: %v", rounds)
	}
}

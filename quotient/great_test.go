package quotient

import (
	"slices"
	"testing"

	"doublet/api"
	"doublet/dfa"
	"doublet/sample"
)

// As many states, classes and names as there may be: blocks of each alone, of many, of all; the machine needs all its classes.
func TestGreatBlocks(t *testing.T) {
	t.Parallel()
	const few = 1024
	// What leads from state to state by sums does so from rest to rest.
	d := leading(most, 256, api.MaxRules)
	small := leading(few, 256, api.MaxRules)
	for s := range d.Label {
		d.Label[s] = small.Label[s%few]
	}
	blocks := rest(most, few)
	holdStable(t, d, blocks, true)
	holdDfa(t, told(Of(d, turned(blocks, turns()[4]))), small, "Of, by rests, of %s", brief(d))
	holdStable(t, d, by(most, func(s int) int { return -s }), true)
	holdDfa(t, told(Of(d, upTo(7, most+7))), d, "Of, by each alone, of %s", brief(d))
	holdOfError(t, d, rest(most, few/2), api.ErrArg)
	holdOfError(t, d, rest(most, few+1), api.ErrArg)
	holdOfError(t, d, blocks[1:], api.ErrArg)
	// The last number of the last row.
	last := most - 1
	to := d.Next[last][255]
	holdOfError(t, withNext(d, last, 255, (to+1)%most), blocks, api.ErrArg)
	holdDfa(t, told(Of(withNext(d, last, 255, (to+few)%most), blocks)), small, "Of, by rests, of another one")
	holdOfError(t, withLabel(d, last, (d.Label[last]+1)%65), blocks, api.ErrArg)
	holdOfError(t, withNext(d, last, 255, most), blocks, api.ErrKind)
	for s := range d.Label {
		d.Label[s] = 64
	}
	one := quiet(1, 256)
	one.Names, one.Label = d.Names, ints(64)
	holdDfa(t, told(Of(d, make([]int, most))), one, "Of, by all in one, of %s", brief(d))
	holdClasses(t, d, d.Of, 256)
	holdDfa(t, told(Merge(d)), d, "Merge of %s", brief(d))
}

// Such machines whose classes are told apart by the last state alone, by the first one, by one state each, or by none; half of them, or all but two.
func TestGreatClasses(t *testing.T) {
	t.Parallel()
	d := quiet(most, 256)
	holdDfa(t, told(Merge(d)), quiet(most, 1), "Merge of %s", brief(d))
	all := upTo(0, 256)
	for _, s := range []int{0, most - 1} {
		x := withRow(d, s, all)
		holdDfa(t, told(Merge(x)), x, "Merge, of what %d tells apart,", s)
	}
	x := d
	x.Next = slices.Clone(d.Next)
	for class := range 255 {
		x.Next[most-1-class*257] = by(256, func(c int) int { return max(0, c-class) * 7 })
	}
	holdDfa(t, told(Merge(x)), x, "Merge, of what each of many tells apart,")
	// Two classes are alike: each row has to be looked at to the end.
	x = leading(most, 256, api.MaxRules)
	for _, row := range x.Next {
		row[255] = row[254]
	}
	numbers := by(256, func(c int) int { return min(c, 254) })
	merged := told(Merge(x))
	holdClasses(t, x, grouped(x, numbers), 255)
	holdDfa(t, merged, pickedRows(x, grouped(x, numbers), upTo(0, 255)...), "Merge of two that are alike")
	holdDfa(t, told(Merge(merged.d)), merged.d, "Merge of what Merge tells")
	for _, row := range x.Next {
		for class := range row {
			row[class] = row[class/2*2]
		}
	}
	holdClasses(t, x, grouped(x, by(256, func(c int) int { return c / 2 })), 128)
}

// Lists far longer than there may be states: each call ends soon.
func TestGreatLists(t *testing.T) {
	t.Parallel()
	const far = 1 << 22
	all, one, few := upTo(0, far), make([]int, far), rest(far, 1000)
	holdBlocks(t, Norm(turned(all, turns()[4])), all, "Norm of falling numbers")
	holdBlocks(t, Norm(one), one, "Norm of one block")
	holdBlocks(t, Join(few, one), few, "Join with one block")
	holdBlocks(t, Join(all, ints(5, 5)), ints(0, 1), "Join with two")
	holdBlocks(t, Join(nil, all), nil, "Join with none")
	if !Finer(few, one) || Finer(one, few) || Finer(few, few[1:]) || Finer(all, nil) || Finer(nil, all) {
		t.Error("Finer is wrong of long lists")
	}
	d := tree(0)
	for _, l := range [][]int{all, one, few} {
		holdOfError(t, d, l, api.ErrArg)
		holdOfError(t, api.Dfa{}, l, api.ErrKind)
	}
	for _, x := range []api.Dfa{withRow(d, 0, one), {Of: d.Of, Width: d.Width, Next: d.Next, Label: one}, {Of: d.Of, Width: d.Width, Next: make([][]int, far), Label: one}, {Of: d.Of, Width: d.Width, Next: d.Next, Label: d.Label, Names: make([]string, far)}} {
		for _, l := range [][]int{all, one, upTo(0, 7)} {
			holdOfError(t, x, l, api.ErrKind)
		}
		holdNoClasses(t, x)
	}
}

// A chain of calls: what is unfolded and spread comes back by its blocks and by Merge.
func TestGreatAndBack(t *testing.T) {
	t.Parallel()
	next := sample.Chances()
	small := leading(100, 4, 20)
	middle, as := sample.Unfolded(small, most, next)
	d := sample.Spread(middle, 3, next)
	of := told(Of(d, as))
	back := told(Merge(of.d))
	merged := told(Merge(d))
	holdDfa(t, told(Of(merged.d, as)), back.d, "Of, of what Merge tells,")
	holdDfa(t, merged, middle, "Merge of what was spread")
	// The states are numbered by the first ones of their blocks: kept in the order of small they are those of it.
	order := by(100, func(one int) int { return modelNormAt(as, one) })
	kept, wrong := dfa.Keep(back.d, order)
	holdDfa(t, answered{kept, wrong}, small, "what comes back")
}

// modelNormAt: the normal number of a block.
func modelNormAt(l []int, block int) int {
	var blocks []int
	for _, n := range l {
		if n == block {
			return len(blocks)
		}
		if !slices.Contains(blocks, n) {
			blocks = append(blocks, n)
		}
	}
	return -1
}

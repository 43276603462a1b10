package simple

import (
	"slices"
	"testing"

	"doublet/api"
	"doublet/sample"
	"doublet/sets"
	"doublet/tree"
)

// The model changes a tree by small steps, until there is none left.

// step changes a tree once, by its first node and that one's Kids; or tells false, if nothing is to be changed there.
func step(x api.Node) (api.Node, bool) {
	switch x.Kind {
	case 3:
		return none(), x.Set == api.Set{}
	case 4:
		return stepOfCat(x.Kids)
	case 5:
		return stepOfAlt(x.Kids)
	case 6:
		return stepOfKid("ee...sss.", x.Kids[0])
	case 7:
		return stepOfKid("kk...kks.", x.Kids[0])
	case 8:
		return stepOfKid("ek...ksk.", x.Kids[0])
	case 9:
		return stepOfRep(x.Kids[0], x.Lo, x.Hi)
	}
	return x, false
}

// stepOfKid goes by the letter at the kid's kind: to the empty word, the kid, or any number of its kid.
func stepOfKid(letters string, kid api.Node) (api.Node, bool) {
	switch letters[kid.Kind-1] {
	case 'e':
		return e(), true
	case 'k':
		return kid, true
	case 's':
		return of(6, kid.Kids...), true
	}
	return api.Node{}, false
}

func stepOfRep(kid api.Node, lo, hi int) (api.Node, bool) {
	switch {
	case hi == 0, kid.Kind == 2, kid.Kind == 1 && lo == 0:
		return e(), true
	case kid.Kind == 1, lo == 1 && hi == 1:
		return kid, true
	case lo == 0 && hi == -1:
		return of(6, kid), true
	case lo == 1 && hi == -1:
		return of(7, kid), true
	case lo == 0 && hi == 1:
		return of(8, kid), true
	}
	return api.Node{}, false
}

// put: a list with others in the place of one.
func put(l []api.Node, at int, others ...api.Node) []api.Node {
	return slices.Concat(l[:at], others, l[at+1:])
}

func stepOfCat(l []api.Node) (api.Node, bool) {
	for i, x := range l {
		switch x.Kind {
		case 1:
			return none(), true
		case 2:
			return of(4, put(l, i)...), true
		case 4:
			return of(4, put(l, i, x.Kids...)...), true
		}
	}
	return stepOfFew(l, e())
}

func stepOfAlt(l []api.Node) (api.Node, bool) {
	for i, x := range l {
		if x.Kind == 1 {
			return of(5, put(l, i)...), true
		}
		if x.Kind == 5 {
			return of(5, put(l, i, x.Kids...)...), true
		}
		for j, y := range l[:i] {
			if tree.Same(x, y) {
				return of(5, put(l, i)...), true
			}
			// One of no byte is to be of KindNone first: it keeps no place for others.
			if is(x, 3) && is(y, 3) && x.Set != (api.Set{}) && y.Set != (api.Set{}) {
				return of(5, put(put(l, i), j, ofSet(sets.Union(x.Set, y.Set)))...), true
			}
		}
	}
	return stepOfFew(l, none())
}

// stepOfFew: a list of none, or of one.
func stepOfFew(l []api.Node, without api.Node) (api.Node, bool) {
	switch len(l) {
	case 0:
		return without, true
	case 1:
		return l[0], true
	}
	return api.Node{}, false
}

// modelled: the Kids changed as far as they can be, and then the tree itself.
func modelled(x api.Node) api.Node {
	var kids []api.Node
	for _, kid := range x.Kids {
		kids = append(kids, modelled(kid))
	}
	x.Kids = kids
	for {
		y, ok := step(x)
		if !ok {
			return x
		}
		x = y
	}
}

// nodes: all nodes of a tree, from the top and the left.
func nodes(x api.Node) []api.Node {
	l := []api.Node{x}
	for _, kid := range x.Kids {
		l = append(l, nodes(kid)...)
	}
	return l
}

// modelledAnyhow: a tree changed at whatever place, until there is none left.
func modelledAnyhow(x api.Node, next func(int) int) api.Node {
	for {
		l := nodes(x)
		from, at := next(len(l)), -1
		for i := range l {
			at = (from + i) % len(l)
			if y, ok := step(l[at]); ok {
				x = sample.With(x, at, y)
				break
			}
			at = -1
		}
		if at < 0 {
			return x
		}
	}
}

// All trees of up to four nodes, and of up to five and six, these of fewer leaves and numbers.
func TestP1203AllSmallTrees(t *testing.T) {
	t.Parallel()
	ends := [][2]int{{0, 0}, {0, -1}, {1, -1}, {2, -1}, {0, 1}, {0, 2}, {1, 1}, {1, 2}, {2, 2}}
	met, stayed := 0, 0
	for _, l := range [][][]api.Node{
		sample.Every(4, []api.Node{none(), e(), hole(), a(), b(), chars("ac")}, ends...),
		sample.Every(5, []api.Node{none(), e(), a(), b()}, [2]int{0, 0}, [2]int{1, -1}, [2]int{2, 3}),
		sample.Every(6, []api.Node{e(), a()}, [2]int{1, 1}, [2]int{0, 1}),
	} {
		for _, x := range slices.Concat(l...) {
			holdOf(t, x, modelled(x))
			met++
			same := tree.Same(x, modelled(x))
			if same {
				stayed++
			}
			if same != tellable(x) {
				t.Errorf("%s stays as it is: %t", brief(x), same)
			}
			if t.Failed() {
				return
			}
		}
	}
	if met < 50000 || stayed < 500 {
		t.Errorf("%d trees were met, %d stayed", met, stayed)
	}
}

// Random trees, by steps from the leaves up, and by steps at whatever place.
func TestP1203RandomTrees(t *testing.T) {
	t.Parallel()
	next := sample.Chances()
	changed, left := 0, 0
	for i := range 12000 {
		x := sample.Small(1+next(40), next)
		if i%4 == 0 {
			x = sample.Grown(1+next(60), next)
		}
		want := modelled(x)
		holdOf(t, x, want)
		if i%4 == 1 {
			holdTree(t, modelledAnyhow(x, next), want, "steps at whatever place", x)
		}
		if !tree.Same(x, want) {
			changed++
		}
		if tree.Size(want) > 5 {
			left++
		}
		if t.Failed() {
			return
		}
	}
	if changed < 5000 || left < 3000 {
		t.Errorf("%d trees were changed, %d stayed great", changed, left)
	}
}

// simples: simple trees, each kind of them, of few nodes.
func simples() []api.Node {
	var l []api.Node
	for _, some := range sample.Every(3, []api.Node{none(), e(), a(), b(), chars("ab")}, [2]int{0, 2}, [2]int{2, 2}, [2]int{2, -1}) {
		for _, x := range some {
			if tellable(x) {
				l = append(l, x)
			}
		}
	}
	return l
}

// All pairs of small simple trees, beside one another; each one's kinds of one kid.
func TestP1202AllPairs(t *testing.T) {
	t.Parallel()
	l := simples()
	if len(l) < 100 {
		t.Errorf("there are %d simple trees", len(l))
	}
	for _, x := range l {
		holdStar(t, modelled(of(6, x)), x)
		holdPlus(t, modelled(of(7, x)), x)
		holdOpt(t, modelled(of(8, x)), x)
		for lo := range 3 {
			for hi := lo; hi < 4; hi++ {
				holdRep(t, modelled(times(x, lo, hi)), x, lo, hi)
			}
			holdRep(t, modelled(times(x, lo, -1)), x, lo, -1)
		}
		for _, y := range l {
			holdCat(t, modelled(of(4, x, y)), x, y)
			holdAlt(t, modelled(of(5, x, y)), x, y)
		}
		if t.Failed() {
			return
		}
	}
}

// Lists of up to seven random simple trees, often some of one list in another one.
func TestP1202RandomLists(t *testing.T) {
	t.Parallel()
	next := sample.Chances()
	var others []api.Node
	for i := range 15000 {
		var l []api.Node
		for range next(8) {
			x := modelled(sample.Small(1+next(9), next))
			if len(others) > 0 && next(3) == 0 {
				x = others[next(len(others))]
			}
			if is(x, 1) && next(8) > 0 {
				// Else Cat would hardly ever make anything else.
				continue
			}
			l = append(l, x)
		}
		holdCat(t, modelled(of(4, l...)), l...)
		holdAlt(t, modelled(of(5, l...)), l...)
		if i%5 == 0 {
			others = append(l, Alt(l...), Cat(l...))
		}
		if t.Failed() {
			return
		}
	}
}

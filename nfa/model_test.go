package nfa

import (
	"math/big"
	"slices"
	"testing"

	"doublet/api"
	"doublet/sample"
	"doublet/tree"
)

// outside: in a laid tree, by itself, the state from which it is laid.
const outside = -1

// laid is a tree that is laid by itself: its new states are numbered from 0 on, and where it is to be laid is not known yet.
type laid struct {
	states int
	links  []api.Link
	edges  []api.Edge
	end    int
}

// place: where a state of g comes to lie that is laid from a state on, behind some new ones.
func place(state, from, behind int) int {
	if state == outside {
		return from
	}
	return behind + state
}

// put lays g from a state on, and tells where its end is.
func (f *laid) put(g laid, from int) int {
	behind := f.states
	for _, link := range g.links {
		f.link(place(link.From, from, behind), place(link.To, from, behind))
	}
	for _, edge := range g.edges {
		f.edges = append(f.edges, api.Edge{From: place(edge.From, from, behind), Set: edge.Set, To: place(edge.To, from, behind)})
	}
	f.states += g.states
	return place(g.end, from, behind)
}

func (f *laid) link(from, to int) { f.links = append(f.links, api.Link{From: from, To: to}) }

// one: a new state.
func (f *laid) one() int {
	f.states++
	return f.states - 1
}

// layAlone lays a tree that may be by itself, sentence by sentence.
func layAlone(x api.Node) laid {
	f := laid{end: outside}
	var kids []laid
	for _, kid := range x.Kids {
		kids = append(kids, layAlone(kid))
	}
	switch x.Kind {
	case api.KindNone:
		f.end = f.one()
	case api.KindEmpty:
	case api.KindSet:
		f.end = f.one()
		f.edges = append(f.edges, api.Edge{From: outside, Set: x.Set, To: f.end})
	case api.KindCat:
		for _, kid := range kids {
			f.end = f.put(kid, f.end)
		}
	case api.KindAlt:
		var ends []int
		for _, kid := range kids {
			ends = append(ends, f.put(kid, outside))
		}
		f.end = f.one()
		for _, end := range ends {
			f.link(end, f.end)
		}
	case api.KindStar, api.KindPlus:
		middle := f.one()
		f.link(outside, middle)
		f.end = f.put(kids[0], middle)
		f.link(f.end, middle)
		if x.Kind == api.KindStar {
			f.end = middle
		}
	case api.KindOpt:
		end := f.put(kids[0], outside)
		f.end = f.one()
		f.link(end, f.end)
		f.link(outside, f.end)
	case api.KindRep:
		layRep(&f, x, kids[0])
	}
	return f
}

// layRep: the sentences on KindRep.
func layRep(f *laid, x api.Node, kid laid) {
	if heft(x.Kids[0]).Sign() == 0 {
		return
	}
	for range x.Lo {
		f.end = f.put(kid, f.end)
	}
	if x.Hi == -1 {
		f.end = f.put(layAlone(api.Node{Kind: api.KindStar, Kids: x.Kids}), f.end)
	}
	if x.Hi > x.Lo {
		last := f.one()
		for range x.Hi - x.Lo {
			f.link(f.end, last)
			f.end = f.put(kid, f.end)
		}
		f.link(f.end, last)
		f.end = last
	}
}

// heft: how many new states a tree that may be takes, as it truly is.
func heft(x api.Node) *big.Int {
	one, kids := big.NewInt(1), new(big.Int)
	for _, kid := range x.Kids {
		kids.Add(kids, heft(kid))
	}
	switch x.Kind {
	case api.KindNone, api.KindSet:
		return one
	case api.KindAlt, api.KindStar, api.KindPlus, api.KindOpt:
		return kids.Add(kids, one)
	case api.KindRep:
		if kids.Sign() == 0 {
			return kids
		}
		n := new(big.Int).Mul(kids, big.NewInt(int64(x.Lo)))
		if x.Hi == -1 {
			n.Add(n, kids)
			n.Add(n, one)
		}
		if x.Hi > x.Lo {
			n.Add(n, kids.Mul(kids, big.NewInt(int64(x.Hi-x.Lo))))
			n.Add(n, one)
		}
		return n
	}
	return kids
}

// sizeOf: how many states the machine of trees that may be has, as it truly is.
func sizeOf(l []api.Node) *big.Int {
	n := big.NewInt(1)
	for _, x := range l {
		n.Add(n, heft(x))
		n.Add(n, big.NewInt(1))
	}
	return n
}

// stopped: a number, or 2 to the power of 40, if it is above.
func stopped(n *big.Int) int {
	if top := big.NewInt(1 << 40); n.Cmp(top) > 0 {
		return 1 << 40
	}
	return int(n.Int64())
}

// modelled: the machine of trees, or an error, by the sentences of the chapter.
func modelled(l []api.Node) (api.Nfa, api.Errno) {
	if len(l) > 64 {
		return api.Nfa{}, api.ErrMany
	}
	for _, x := range l {
		if !tree.Right(x) {
			return api.Nfa{}, api.ErrKind
		}
	}
	if stopped(sizeOf(l)) > 65536 {
		return api.Nfa{}, api.ErrBig
	}
	f := &laid{states: 1}
	labels := map[int]int{}
	for i, x := range l {
		end := f.put(layAlone(x), 0)
		labels[f.one()] = i + 1
		f.link(end, f.states-1)
	}
	n := api.Nfa{States: f.states, Links: f.links, Edges: f.edges}
	for state := range n.States {
		n.Accept = append(n.Accept, labels[state])
	}
	return n, api.OK
}

// holdModelled: Weight, Size and Of of some trees are those of the model, and what Of tells has the shape of a machine of trees. It tells Of's error.
func holdModelled(t *testing.T, l ...api.Node) api.Errno {
	t.Helper()
	want, wrong := modelled(l)
	if wrong != api.OK {
		holdWrong(t, l, wrong)
	} else if n := made(t, l...); shown(n) != shown(want) {
		t.Errorf("of %s comes\n%s, want\n%s", several(l), front(shown(n)), front(shown(want)))
	} else {
		holdShape(t, l, n)
	}
	for _, x := range l {
		if wrong != api.ErrKind && Weight(x) != stopped(heft(x)) {
			t.Errorf("Weight(%s) = %d, want %d", brief(x), Weight(x), stopped(heft(x)))
		}
	}
	if wrong != api.ErrKind && Size(l) != stopped(sizeOf(l)) {
		t.Errorf("Size of %s is %d, want %d", several(l), Size(l), stopped(sizeOf(l)))
	}
	return wrong
}

// holdEach: each tree alone, and behind all trees of a row.
func holdEach(t *testing.T, l []api.Node, ahead ...api.Node) {
	t.Helper()
	for _, x := range l {
		holdModelled(t, x)
		holdModelled(t, append(slices.Clone(ahead), x)...)
		if t.Failed() {
			return
		}
	}
}

// All trees of up to three, four and five nodes, the greater ones of fewer leaves and numbers.
func TestAllSmallTrees(t *testing.T) {
	t.Parallel()
	for _, some := range sample.SmallTrees() {
		holdEach(t, some.Trees, of(8, a()))
	}
}

// Each kind alone, and as a kid of each kind, at each place.
func TestKindsWithinEachOther(t *testing.T) {
	t.Parallel()
	var l []api.Node
	for _, x := range sample.Things() {
		l = append(append(l, x), sample.Above(x)...)
		for _, y := range sample.Things() {
			for _, kind := range []api.Kind{api.KindCat, api.KindAlt} {
				l = append(l, of(kind, x, y), of(kind, x, y, x), rep(of(kind, y, x), 2, 3))
			}
		}
	}
	for _, x := range sample.Things() {
		for _, y := range sample.Above(x) {
			l = append(l, sample.Above(y)...)
		}
	}
	holdEach(t, l, b(), of(6, c()))
	holdEach(t, sample.Around(), sample.Around()...)
}

// All pairs of some trees, and the trees beside each other as one.
func TestPairs(t *testing.T) {
	t.Parallel()
	l := sample.Things()
	for _, x := range l {
		for _, y := range l {
			holdModelled(t, x, y)
			holdModelled(t, x, y, x)
		}
	}
	holdModelled(t, l[:60]...)
}

func TestRandomTrees(t *testing.T) {
	t.Parallel()
	next := sample.Chances()
	var met [api.ErrState + 1]int
	for range 4000 {
		met[holdModelled(t, someTrees(8, next)...)]++
		if t.Failed() {
			return
		}
	}
	if met[api.OK] < 3000 || met[api.ErrBig] < 20 {
		t.Errorf("so often each error was told: %v", met)
	}
}

// Trees of up to as many nodes as may be.
func TestRandomGreatTrees(t *testing.T) {
	t.Parallel()
	next := sample.Chances()
	met, states := [api.ErrState + 1]int{}, 0
	for i := range 100 {
		x := sample.Small(1+next(4095), next)
		if i%3 == 0 {
			x = rep(x, next(30), 30)
		}
		met[holdModelled(t, x)]++
		met[holdModelled(t, a(), x, of(7, b()))]++
		if n, wrong := Of([]api.Node{x}); wrong == api.OK {
			states = max(states, n.States)
		}
		if t.Failed() {
			return
		}
	}
	if met[api.OK] < 100 || met[api.ErrBig] < 20 || states < 10000 {
		t.Errorf("so often each error was told: %v, and no machine has more than %d states", met, states)
	}
}

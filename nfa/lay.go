package nfa

import "doublet/api"

// start: the state at which a machine of trees starts.
const start = 0

// machine is one in which trees are laid: its links and edges as they were told, a label for each of its states, and for each kind of tree the way in which it is laid.
type machine struct {
	links  []api.Link
	edges  []api.Edge
	labels []int
	ways   [api.KindRep + 1]way
}

// way lays a tree from a state on, and tells its end.
type way func(x *part, from int) int

// started: a machine that has its start alone.
func started() *machine {
	m := &machine{labels: []int{start: 0}}
	m.ways = [api.KindRep + 1]way{
		api.KindNone:  m.none,
		api.KindEmpty: m.empty,
		api.KindSet:   m.set,
		api.KindCat:   m.cat,
		api.KindAlt:   m.alt,
		api.KindStar:  m.star,
		api.KindPlus:  m.plus,
		api.KindOpt:   m.opt,
		api.KindRep:   m.rep,
	}
	return m
}

// nfa: the machine, as it is told.
func (m *machine) nfa() api.Nfa {
	return api.Nfa{States: len(m.labels), Start: start, Links: m.links, Edges: m.edges, Accept: m.labels}
}

// state: a new one, with a label.
func (m *machine) state(label int) int {
	m.labels = append(m.labels, label)
	return len(m.labels) - 1
}

func (m *machine) link(from, to int) { m.links = append(m.links, api.Link{From: from, To: to}) }

// lay lays a tree by the way of its kind.
func (m *machine) lay(x *part, from int) int { return m.ways[x.Kind](x, from) }

func (m *machine) none(*part, int) int { return m.state(0) }

func (m *machine) empty(_ *part, from int) int { return from }

func (m *machine) set(x *part, from int) int {
	end := m.state(0)
	m.edges = append(m.edges, api.Edge{From: from, Set: x.Set, To: end})
	return end
}

func (m *machine) cat(x *part, from int) int {
	for i := range x.parts {
		from = m.lay(&x.parts[i], from)
	}
	return from
}

func (m *machine) alt(x *part, from int) int {
	ends := make([]int, len(x.parts))
	for i := range x.parts {
		ends[i] = m.lay(&x.parts[i], from)
	}
	return m.joined(ends...)
}

func (m *machine) star(x *part, from int) int {
	again, _ := m.round(x, from)
	return again
}

func (m *machine) plus(x *part, from int) int {
	_, end := m.round(x, from)
	return end
}

func (m *machine) opt(x *part, from int) int {
	end := m.lay(&x.parts[0], from)
	return m.joined(end, from)
}

func (m *machine) rep(x *part, from int) int {
	kid := &x.parts[0]
	if kid.weight == 0 {
		return m.empty(x, from)
	}
	for range x.Lo {
		from = m.lay(kid, from)
	}
	switch {
	case x.Hi == endless:
		return m.star(x, from)
	case x.Hi > x.Lo:
		return m.upTo(kid, x.Hi-x.Lo, from)
	}
	return from
}

// round lays a tree's kid between links to a new state, from which on it is laid, and tells that state and the kid's end.
func (m *machine) round(x *part, from int) (again, end int) {
	again = m.state(0)
	m.link(from, again)
	end = m.lay(&x.parts[0], again)
	m.link(end, again)
	return again, end
}

// upTo lays a tree so many times, one behind the other, each of which may be the last one, as may be none.
func (m *machine) upTo(x *part, times, from int) int {
	end := m.state(0)
	for range times {
		m.link(from, end)
		from = m.lay(x, from)
	}
	m.link(from, end)
	return end
}

// joined: a new state to which links lead from others.
func (m *machine) joined(from ...int) int {
	end := m.state(0)
	for _, one := range from {
		m.link(one, end)
	}
	return end
}

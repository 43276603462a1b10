package closure

import "doublet/api"

// links: for each state those to which links lead from it.
type links [][]int

func linksOf(n api.Nfa) links {
	l := make(links, n.States)
	for _, link := range n.Links {
		ends := l[link.From]
		// A choice of empty words may have one link thousands of times: it is kept once.
		if last := len(ends) - 1; last < 0 || ends[last] != link.To {
			l[link.From] = append(ends, link.To)
		}
	}
	return l
}

// edges: for each word of a Set, thus for each quarter of all bytes, the edges by some of these, by the states from which they lead.
type edges [len(api.Set{})]map[int][]api.Edge

func edgesOf(n api.Nfa) edges {
	var l edges
	for quarter := range l {
		from := map[int][]api.Edge{}
		for _, edge := range n.Edges {
			if edge.Set[quarter] != 0 {
				from[edge.From] = append(from[edge.From], edge)
			}
		}
		l[quarter] = from
	}
	return l
}

// of: edges from a state, all those with b among them.
func (l *edges) of(state int, b byte) []api.Edge { return l[b/64][state] }

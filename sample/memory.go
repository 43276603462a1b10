package sample

import (
	"slices"
	"strconv"

	"doublet/api"
	"doublet/sets"
)

// Dump writes all of trees, with the room behind their lists, in a way of each one's own.
func Dump(l []api.Node) string { return string(dumped(nil, l)) }

func dumped(text []byte, l []api.Node) []byte {
	for _, x := range l[:cap(l)] {
		text = strconv.AppendInt(append(text, '<'), int64(x.Kind), 10)
		for _, word := range x.Set {
			text = strconv.AppendUint(append(text, ' '), word, 16)
		}
		for _, n := range []int{x.Lo, x.Hi, len(x.Kids)} {
			text = strconv.AppendInt(append(text, ' '), int64(n), 10)
		}
		text = append(dumped(text, x.Kids), '>')
	}
	return text
}

// Roomy: the same trees, in lists that have room behind them, with a mark in it.
func Roomy(l []api.Node) []api.Node {
	made := make([]api.Node, len(l)+2)
	for i, x := range l {
		made[i] = x
		made[i].Kids = Roomy(x.Kids)
	}
	made[len(l)] = api.Node{Kind: 55, Lo: 5}
	made[len(l)+1] = api.Node{Kind: api.KindCat, Lo: 6}
	return made[:len(l)]
}

// RoomyText: the bytes of a text, with room behind them that goes on as words of a, b and c do.
func RoomyText(w string) []byte {
	l := append([]byte(w), "aaabbbcccaaabbbccc"...)
	return l[:len(w)]
}

// Scribble writes over all that lies in lists of trees, and behind them.
func Scribble(l []api.Node) {
	l = l[:cap(l)]
	for i := range l {
		Scribble(l[i].Kids)
		l[i] = api.Node{Kind: 77, Set: sets.All(), Lo: 7, Hi: 7}
	}
}

// Shared: does a node of trees, or the room behind one, lie in two lists?
func Shared(l ...api.Node) bool {
	met := map[*api.Node]int{}
	var meet func(x api.Node)
	meet = func(x api.Node) {
		room := x.Kids[:cap(x.Kids)]
		for i := range room {
			met[&room[i]]++
		}
		for _, kid := range x.Kids {
			meet(kid)
		}
	}
	for _, x := range l {
		meet(x)
	}
	for _, n := range met {
		if n > 1 {
			return true
		}
	}
	return false
}

// RoomyMachine: the same machine, in lists that have room behind them, with marks in it.
func RoomyMachine(n api.Nfa) api.Nfa {
	n.Links = append(slices.Clone(n.Links), api.Link{From: 5, To: 6})[:len(n.Links)]
	n.Edges = append(slices.Clone(n.Edges), api.Edge{From: 7, Set: sets.Of('#'), To: 8})[:len(n.Edges)]
	n.Accept = append(slices.Clone(n.Accept), 9)[:len(n.Accept)]
	return n
}

// Stretched: a machine whose lists go on to the end of the room behind them.
func Stretched(n api.Nfa) api.Nfa {
	n.Links, n.Edges, n.Accept = n.Links[:cap(n.Links)], n.Edges[:cap(n.Edges)], n.Accept[:cap(n.Accept)]
	return n
}

// ScribbleMachine writes over all that lies in a machine's lists, and behind them.
func ScribbleMachine(n api.Nfa) {
	n = Stretched(n)
	for i := range n.Links {
		n.Links[i] = api.Link{From: 77, To: 78}
	}
	for i := range n.Edges {
		n.Edges[i] = api.Edge{From: 79, Set: sets.All(), To: 80}
	}
	for i := range n.Accept {
		n.Accept[i] = 81
	}
}

// RoomyDfa: the same machine, in lists that have room behind them, with marks in it.
func RoomyDfa(d api.Dfa) api.Dfa {
	rows := make([][]int, 0, len(d.Next)+1)
	for _, row := range d.Next {
		rows = append(rows, append(slices.Clone(row), 1, 66)[:len(row)])
	}
	d.Next = append(rows, []int{1, 67})[:len(rows)]
	d.Label = append(slices.Clone(d.Label), 1, 68)[:len(d.Label)]
	d.Names = append(slices.Clone(d.Names), "mark")[:len(d.Names)]
	return d
}

// StretchedDfa: a machine whose lists, and rows, go on to the end of the room behind them.
func StretchedDfa(d api.Dfa) api.Dfa {
	rows := d.Next[:cap(d.Next)]
	d.Next = make([][]int, len(rows))
	for s, row := range rows {
		d.Next[s] = row[:cap(row)]
	}
	d.Label, d.Names = d.Label[:cap(d.Label)], d.Names[:cap(d.Names)]
	return d
}

// ScribbleDfa writes over all that lies in a machine's lists, and rows, and behind them.
func ScribbleDfa(d api.Dfa) {
	rows := d.Next[:cap(d.Next)]
	for s, row := range rows {
		row = row[:cap(row)]
		for c := range row {
			row[c] = 77
		}
		rows[s] = []int{78}
	}
	d = StretchedDfa(d)
	for s := range d.Label {
		d.Label[s] = 79
	}
	for place := range d.Names {
		d.Names[place] = "scribbled"
	}
}

// RoomyList: the same list, with room behind it, and marks in it.
func RoomyList[T any](l []T, marks ...T) []T { return append(slices.Clone(l), marks...)[:len(l)] }

// StretchedList: a list that goes on to the end of the room behind it.
func StretchedList[T any](l []T) []T { return l[:cap(l)] }

// ScribbleList writes one thing over all that lies in a list, and behind it.
func ScribbleList[T any](l []T, with T) {
	l = StretchedList(l)
	for i := range l {
		l[i] = with
	}
}

// SharedLists: does a place in lists, or in the room behind them, lie in two of them?
func SharedLists[T any](l ...[]T) bool {
	met := map[*T]int{}
	for _, list := range l {
		list = list[:cap(list)]
		for i := range list {
			if met[&list[i]]++; met[&list[i]] > 1 {
				return true
			}
		}
	}
	return false
}

// SharedDfas: does one in machines' lists and rows?
func SharedDfas(l ...api.Dfa) bool {
	var rows [][][]int
	var numbers [][]int
	var names [][]string
	for _, d := range l {
		rows, names = append(rows, d.Next), append(names, d.Names)
		numbers = append(append(numbers, d.Next[:cap(d.Next)]...), d.Label)
	}
	return SharedLists(rows...) || SharedLists(numbers...) || SharedLists(names...)
}

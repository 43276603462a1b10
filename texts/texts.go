// Package texts makes trees of texts, and texts of trees, rules and machines, for the tests of packages above show; the program itself does not call it.
package texts

import (
	"strconv"
	"strings"

	"doublet/api"
	"doublet/class"
	"doublet/parse"
	"doublet/sample"
	"doublet/show"
	"doublet/tree"
)

// Nothing: a class of no byte, as a text.
const Nothing = `[^\x00-\xff]`

// Tree: the tree of a text; of a wrong one it panics, for the test is wrong then.
func Tree(text string) api.Node {
	x, bad := parse.Text([]byte(text))
	if bad != (api.Bad{}) {
		panic("a test has a wrong text: " + strconv.Quote(text))
	}
	return x
}

// Brief: the front of what a tree is written as; of one that may not be its first node, for it may have very many.
func Brief(x api.Node) string {
	text, wrong := show.Text(x)
	switch {
	case !tree.Right(x):
		return "a node of kind " + strconv.Itoa(int(x.Kind)) + " with " + strconv.Itoa(len(x.Kids)) + " Kids, " + strconv.Itoa(x.Lo) + " and " + strconv.Itoa(x.Hi)
	case wrong != api.OK, !tree.Same(x, sample.Filled(x)):
		// A text does not tell KindNone from a KindSet of no byte.
		text = sample.Dump([]api.Node{x})
	}
	if len(text) > 300 {
		text = text[:300] + " .."
	}
	return text
}

// Several: the front of what some trees are written as.
func Several(l []api.Node) string {
	var pieces []string
	for _, x := range l[:min(len(l), 5)] {
		pieces = append(pieces, Brief(x))
	}
	return strconv.Itoa(len(l)) + " trees, " + Front(strings.Join(pieces, " and "))
}

// Rules: the front of what some rules are written as.
func Rules(l []api.Rule) string {
	var pieces []string
	for _, rule := range l[:min(len(l), 5)] {
		pieces = append(pieces, rule.Name[:min(len(rule.Name), api.MaxName+1)]+":"+Brief(rule.Body))
	}
	return strconv.Itoa(len(l)) + " rules, " + Front(strings.Join(pieces, " and "))
}

// Links: links as a text, 1>2 3>4.
func Links(l []api.Link) string {
	var pieces []string
	for _, link := range l {
		pieces = append(pieces, strconv.Itoa(link.From)+">"+strconv.Itoa(link.To))
	}
	return strings.Join(pieces, " ")
}

// Edges: edges as a text, 0[a]1 1[bc]2.
func Edges(l []api.Edge) string {
	var pieces []string
	for _, edge := range l {
		pieces = append(pieces, strconv.Itoa(edge.From)+class.Show(edge.Set)+strconv.Itoa(edge.To))
	}
	return strings.Join(pieces, " ")
}

// Machine: all of a machine as a text; two machines have one text just if nothing tells them apart.
func Machine(n api.Nfa) string {
	var labels []string
	for _, label := range n.Accept {
		labels = append(labels, strconv.Itoa(label))
	}
	return strconv.Itoa(n.States) + " states from " + strconv.Itoa(n.Start) + ", links " + Links(n.Links) + ", edges " + Edges(n.Edges) + ", labels [" + strings.Join(labels, " ") + "]"
}

// Classes: classes of bytes as a text, by the pieces that have one number: 0-96:0 97-97:1.
func Classes(of [256]uint8) string {
	var pieces []string
	for from := 0; from < 256; {
		to := from
		for to < 255 && of[to+1] == of[from] {
			to++
		}
		pieces = append(pieces, strconv.Itoa(from)+"-"+strconv.Itoa(to)+":"+strconv.Itoa(int(of[from])))
		from = to + 1
	}
	return strings.Join(pieces, " ")
}

// Dfa: all of a machine that is in one state as a text; two machines have one text just if nothing tells them apart.
func Dfa(d api.Dfa) string {
	text := []byte("rows")
	for _, row := range d.Next {
		text = appendNumbers(append(text, ' '), row)
	}
	text = appendNumbers(append(text, ", labels "...), d.Label)
	text = append(text, ", names"...)
	for _, name := range d.Names {
		text = strconv.AppendQuote(append(text, ' '), name)
	}
	return string(text) + ", width " + strconv.Itoa(d.Width) + ", classes " + Classes(d.Of)
}

// appendNumbers: numbers as a text, [1 2], behind another one.
func appendNumbers(text []byte, l []int) []byte {
	text = append(text, '[')
	for i, n := range l {
		if i > 0 {
			text = append(text, ' ')
		}
		text = strconv.AppendInt(text, int64(n), 10)
	}
	return append(text, ']')
}

// BriefDfa: the front of that, with how many states and classes there are; of a great machine no more, for the text would have millions of bytes.
func BriefDfa(d api.Dfa) string {
	text := strconv.Itoa(len(d.Label)) + " states of width " + strconv.Itoa(d.Width)
	if len(d.Next) > 100 {
		return text
	}
	return text + ": " + Front(Dfa(d))
}

// Front: of a text what has room in a line.
func Front(text string) string {
	if len(text) > 600 {
		return text[:600] + " .."
	}
	return text
}

// Package texts makes trees of texts, and texts of trees, for the tests of packages above show; the program itself does not call it.
package texts

import (
	"strconv"

	"doublet/api"
	"doublet/parse"
	"doublet/sample"
	"doublet/show"
	"doublet/tree"
)

// Nothing: a class of no byte, as a text.
const Nothing = `[^\x00-\xff]`

// Tree: the tree of a text; of a wrong one it panics, for the test is wrong then.
func Tree(text string) api.Node {
	x, bad := parse.Text([]byte(text))
	if bad != (api.Bad{}) {
		panic("a test has a wrong text: " + strconv.Quote(text))
	}
	return x
}

// Brief: the front of what a tree is written as; of one that may not be its first node, for it may have very many.
func Brief(x api.Node) string {
	text, wrong := show.Text(x)
	switch {
	case !tree.Right(x):
		return "a node of kind " + strconv.Itoa(int(x.Kind)) + " with " + strconv.Itoa(len(x.Kids)) + " Kids, " + strconv.Itoa(x.Lo) + " and " + strconv.Itoa(x.Hi)
	case wrong != api.OK, !tree.Same(x, sample.Filled(x)):
		// A text does not tell KindNone from a KindSet of no byte.
		text = sample.Dump([]api.Node{x})
	}
	if len(text) > 300 {
		text = text[:300] + " .."
	}
	return text
}

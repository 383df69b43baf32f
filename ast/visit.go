package ast

import (
	"iter"

	"partywall/api"
)

// nodes yields a pattern and all nodes in it, each before its Kids, with the number of nodes on the way down to it.
func nodes(n api.Node) iter.Seq2[int, api.Node] {
	return func(yield func(depth int, n api.Node) bool) { visit(1, n, yield) }
}

// visit yields a node at this depth and all nodes in it, and says whether all of them were wanted.
func visit(depth int, n api.Node, yield func(depth int, n api.Node) bool) bool {
	if !yield(depth, n) {
		return false
	}
	for _, kid := range n.Kids {
		if !visit(depth+1, kid, yield) {
			return false
		}
	}
	return true
}

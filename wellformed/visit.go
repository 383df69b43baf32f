package wellformed

import (
	"iter"

	"partywall/api"
)

// nodes yields a node and all nodes in it, each before its Kids.
func nodes(n api.Node) iter.Seq[api.Node] {
	return func(yield func(n api.Node) bool) {
		if !yield(n) {
			return
		}
		for _, kid := range n.Kids {
			for node := range nodes(kid) {
				if !yield(node) {
					return
				}
			}
		}
	}
}

// leaves yields the nodes of a pattern that have atoms, with the numbers of these.
func leaves(n api.Node) iter.Seq2[int, api.Node] {
	return func(yield func(number int, leaf api.Node) bool) {
		number := 0
		for node := range nodes(n) {
			if len(node.Kids) > 0 {
				continue
			}
			if !yield(number, node) {
				return
			}
			number++
		}
	}
}

// names yields the names of a pattern, with the numbers of their atoms.
func names(n api.Node) iter.Seq2[int, string] {
	return func(yield func(number int, name string) bool) {
		for number, leaf := range leaves(n) {
			if !isNot(leaf) && leaf.Atom.Name != "" && !yield(number, leaf.Atom.Name) {
				return
			}
		}
	}
}

// numbers returns the numbers of the atoms that have the names of a pattern.
func numbers(n api.Node) map[string]int {
	known := map[string]int{}
	for number, name := range names(n) {
		known[name] = number
	}
	return known
}

// uses yields the names that Haves and then Emits use.
func uses(q api.Query) iter.Seq[string] {
	return func(yield func(name string) bool) {
		for _, h := range q.Having {
			if !yield(h.Agg.Name) {
				return
			}
		}
		for _, a := range q.Emit {
			if !yield(a.Name) {
				return
			}
		}
	}
}

// isNot says whether a node is a negated atom.
func isNot(n api.Node) bool { return n.Kind == api.Not }

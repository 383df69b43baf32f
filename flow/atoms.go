package flow

import (
	"slices"

	"partywall/api"
	"partywall/ast"
	"partywall/wellformed"
)

// atomsOf returns the atoms of a query, the negated ones too, or the error of wellformed.Check.
func atomsOf(q api.Query) ([]api.Atom, api.Errno) {
	if err := wellformed.Check(q); err != api.OK {
		return nil, err
	}
	return ast.Atoms(q.Pattern)
}

// changed returns a sound pattern, newly made, after a change of each of its atoms.
func changed(pattern api.Node, change func(a *api.Atom)) api.Node {
	var renew func(n api.Node) api.Node
	renew = func(n api.Node) api.Node {
		n.Atom.Conds, n.Kids = slices.Clone(n.Atom.Conds), slices.Clone(n.Kids)
		for i, kid := range n.Kids {
			n.Kids[i] = renew(kid)
		}
		// A node with Kids has no atom.
		if len(n.Kids) == 0 {
			change(&n.Atom)
		}
		return n
	}
	return renew(pattern)
}

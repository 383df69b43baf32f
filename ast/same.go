package ast

import "partywall/api"

// Same says whether two queries are equal, sound or not.
func Same(a, b api.Query) bool {
	return sameNode(a.Pattern, b.Pattern) && a.Within == b.Within &&
		sameList(a.Having, b.Having, equal) && sameList(a.Emit, b.Emit, equal)
}

// sameNode says whether two nodes are equal.
func sameNode(a, b api.Node) bool {
	return a.Kind == b.Kind && a.Min == b.Min && a.Max == b.Max &&
		sameAtom(a.Atom, b.Atom) && sameList(a.Kids, b.Kids, sameNode)
}

// sameAtom says whether two atoms are equal.
func sameAtom(a, b api.Atom) bool {
	return a.Kind == b.Kind && a.Bounded == b.Bounded && a.Bound == b.Bound &&
		a.Name == b.Name && sameList(a.Conds, b.Conds, equal)
}

// sameList says whether two lists have as many items, and those at the same places are the same.
func sameList[X any](a, b []X, same func(x, y X) bool) bool {
	if len(a) != len(b) {
		return false
	}
	for i := range a {
		if !same(a[i], b[i]) {
			return false
		}
	}
	return true
}

// equal says whether two values are equal.
func equal[X comparable](x, y X) bool { return x == y }

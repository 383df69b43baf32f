package ast

import (
	"slices"

	"partywall/api"
	"partywall/token"
)

// The greatest numbers that sound queries have.
const (
	mostKind   = 25
	mostTimes  = 99
	mostWithin = 99999
	mostDepth  = 200
)

// leastKids is how many Kids a Seq or an Alt has at least.
const leastKids = 2

// Check returns ErrForm unless the query is sound.
func Check(q api.Query) api.Errno {
	if Sound(q.Pattern) != api.OK || q.Within > mostWithin || !areAll(q.Having, isHave) || !areAll(q.Emit, isAgg) {
		return api.ErrForm
	}
	return api.OK
}

// Sound returns ErrForm unless the node is sound.
func Sound(n api.Node) api.Errno {
	// The first node that is too deep ends the visit, so that it ends also if a node is among its own Kids.
	for depth, node := range nodes(n) {
		if depth > mostDepth || !isNode(node) {
			return api.ErrForm
		}
	}
	return api.OK
}

// Name says whether s may be the name of an atom: a word, not too long, that is none of the language.
func Name(s string) bool {
	return len(s) <= api.MaxName && !token.Word(s) && token.Check(api.Token{Kind: api.TokWord, Text: s}) == api.OK
}

// isNode says whether a node is sound if its Kids are.
func isNode(n api.Node) bool {
	hasTimes := n.Min != 0 || n.Max != 0
	switch n.Kind {
	case api.Single:
		return isAtom(n.Atom) && isFrom(0, n.Min, mostTimes) && isFrom(0, n.Max, mostTimes) && len(n.Kids) == 0
	case api.Not:
		return isAtom(n.Atom) && !hasTimes && len(n.Kids) == 0
	case api.Seq, api.Alt:
		return sameAtom(n.Atom, api.Atom{}) && !hasTimes && len(n.Kids) >= leastKids
	}
	return false
}

// isAtom says whether an atom is sound.
func isAtom(a api.Atom) bool {
	return isFrom(0, a.Kind, mostKind) && (a.Bounded || a.Bound == 0) && areAll(a.Conds, isCond) && (a.Name == "" || Name(a.Name))
}

// isCond says whether the comparison of a condition is there.
func isCond(c api.Cond) bool { return isFrom(api.Eq, c.Op, api.Ge) }

// isAgg says whether the function of an aggregate is there, and its name is one.
func isAgg(a api.Agg) bool { return isFrom(aggCount, a.Func, aggLast) && Name(a.Name) }

// isHave says whether both parts of a Have are sound.
func isHave(h api.Have) bool { return isAgg(h.Agg) && isCond(h.Cond) }

// isFrom says whether n is from low to high.
func isFrom(low, n, high int) bool { return low <= n && n <= high }

// areAll says whether all items are such ones.
func areAll[X any](items []X, isOne func(x X) bool) bool {
	return !slices.ContainsFunc(items, func(x X) bool { return !isOne(x) })
}

package wellformed

import (
	"partywall/api"
	"partywall/ast"
)

// checks returns the checks, in the order of their errors. Each may rely on what those before it have found right.
func checks() []func(q api.Query) api.Errno {
	return []func(q api.Query) api.Errno{
		ast.Check, checkRoom, checkDepth, checkNumbers, checkNots, checkTwice, checkNames,
	}
}

// checkRoom returns ErrFull if there is more of anything than a query may have.
func checkRoom(q api.Query) api.Errno {
	if len(q.Having) > api.MaxAggs || len(q.Emit) > api.MaxAggs {
		return api.ErrFull
	}
	atoms := 0
	for n := range nodes(q.Pattern) {
		if len(n.Kids) == 0 {
			atoms++
		}
		if atoms > api.MaxAtoms || len(n.Kids) > api.MaxKids || len(n.Atom.Conds) > api.MaxConds {
			return api.ErrFull
		}
	}
	return api.OK
}

// checkDepth returns ErrDepth if the pattern is too deep.
func checkDepth(q api.Query) api.Errno {
	// A sound pattern has a depth: there is no error to ask for.
	if depth, _ := ast.Depth(q.Pattern); depth > api.MaxDepth {
		return api.ErrDepth
	}
	return api.OK
}

// checkNumbers returns ErrRange unless numbers of times and the window are within their limits.
func checkNumbers(q api.Query) api.Errno {
	if q.Within > api.MaxWithin {
		return api.ErrRange
	}
	for _, leaf := range leaves(q.Pattern) {
		if leaf.Kind == api.Single && !(1 <= leaf.Min && leaf.Min <= leaf.Max && leaf.Max <= api.MaxRepeat) {
			return api.ErrRange
		}
	}
	return api.OK
}

// checkNots returns ErrOrder unless each Not stands right.
func checkNots(q api.Query) api.Errno {
	if isNot(q.Pattern) {
		return api.ErrOrder
	}
	for n := range nodes(q.Pattern) {
		for i, kid := range n.Kids {
			if isNot(kid) && !(n.Kind == api.Seq && hasOther(n.Kids[:i]) && hasOther(n.Kids[i+1:])) {
				return api.ErrOrder
			}
		}
	}
	return api.OK
}

// hasOther says whether one of these nodes is not negated.
func hasOther(l []api.Node) bool {
	for _, n := range l {
		if !isNot(n) {
			return true
		}
	}
	return false
}

// checkTwice returns ErrExists if two atoms have the same name.
func checkTwice(q api.Query) api.Errno {
	seen := map[string]bool{}
	for _, leaf := range leaves(q.Pattern) {
		name := leaf.Atom.Name
		if seen[name] {
			return api.ErrExists
		}
		// Atoms without a name have none in common.
		seen[name] = name != ""
	}
	return api.OK
}

// checkNames returns ErrName if a negated atom has a name, or a name is used that is none of the query.
func checkNames(q api.Query) api.Errno {
	for _, leaf := range leaves(q.Pattern) {
		if isNot(leaf) && leaf.Atom.Name != "" {
			return api.ErrName
		}
	}
	known := numbers(q.Pattern)
	for name := range uses(q) {
		if _, is := known[name]; !is {
			return api.ErrName
		}
	}
	return api.OK
}

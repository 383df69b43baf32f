package parse

import (
	"math"

	"partywall/api"
	"partywall/label"
)

// The greatest numbers that queries may have.
const (
	mostCategory = 63
	mostTimes    = 99
	mostWithin   = 99999
)

// comparisons returns the comparison for which each sign stands.
func comparisons() map[string]int {
	return map[string]int{"=": api.Eq, "!=": api.Ne, "<": api.Lt, "<=": api.Le, ">": api.Gt, ">=": api.Ge}
}

// functions returns the aggregate function for which each word stands.
func functions() map[string]int {
	return map[string]int{
		"count": api.AggCount, "sum": api.AggSum, "min": api.AggMin,
		"max": api.AggMax, "first": api.AggFirst, "last": api.AggLast,
	}
}

// reader reads what the grammar says: each method what it is named after.
type reader struct{ cursor }

// query reads a query.
func (r *reader) query() api.Query {
	q := api.Query{Pattern: r.pattern()}
	r.must("within")
	q.Within = uint64(r.number(0, mostWithin))
	if r.skips("having") {
		q.Having = list(r, "and", r.have)
	}
	if r.skips("emit") {
		q.Emit = list(r, ",", r.agg)
	}
	return q
}

// pattern reads a pattern.
func (r *reader) pattern() api.Node { return join(api.Alt, list(r, "|", r.seq)) }

// seq reads a sequence, perhaps of one item.
func (r *reader) seq() api.Node { return join(api.Seq, list(r, ";", r.item)) }

// item reads an item of a sequence.
func (r *reader) item() api.Node {
	if r.skips("not") {
		return api.Node{Kind: api.Not, Atom: r.atom()}
	}
	return r.unit()
}

// unit reads an atom, perhaps with numbers of times, or a pattern in parentheses.
func (r *reader) unit() api.Node {
	if r.skips("(") {
		n := r.pattern()
		r.must(")")
		return n
	}
	n := api.Node{Kind: api.Single, Min: 1, Max: 1, Atom: r.atom()}
	if r.skips("{") {
		n.Min = int(r.number(0, mostTimes))
		r.must(",")
		n.Max = int(r.number(0, mostTimes))
		r.must("}")
	}
	return n
}

// atom reads an atom.
func (r *reader) atom() api.Atom {
	a := api.Atom{Kind: r.letter()}
	if r.skips("@") {
		a.Bounded, a.Bound = true, r.label()
	}
	if r.skips("[") {
		a.Conds = list(r, ",", r.cond)
		r.must("]")
	}
	if r.skips(":") {
		a.Name = r.name()
	}
	return a
}

// label reads a label.
func (r *reader) label() uint64 {
	r.must("{")
	if r.skips("}") {
		return 0
	}
	before := -1
	categories := list(r, ",", func() int {
		before = r.category(before)
		return before
	})
	r.must("}")
	// Categories in range have a label: there is no error to ask for.
	l, _ := label.Of(categories...)
	return l
}

// category reads a category that is greater than the one before.
func (r *reader) category(before int) int {
	at := r.here().At
	c := int(r.number(0, mostCategory))
	if c <= before {
		stopAt(api.ErrOrder, at)
	}
	return c
}

// cond reads a condition.
func (r *reader) cond() api.Cond {
	return api.Cond{Op: r.oneOf(comparisons()), Value: r.number(math.MinInt64, math.MaxInt64)}
}

// have reads a condition on an aggregate.
func (r *reader) have() api.Have { return api.Have{Agg: r.agg(), Cond: r.cond()} }

// agg reads an aggregate.
func (r *reader) agg() api.Agg {
	a := api.Agg{Func: r.oneOf(functions())}
	r.must("(")
	a.Name = r.name()
	r.must(")")
	return a
}

// list reads a part, and another one behind each separator.
func list[X any](r *reader, between string, part func() X) []X {
	parts := []X{part()}
	for r.skips(between) {
		parts = append(parts, part())
	}
	return parts
}

// join returns the node of these parts; a single one stands for itself.
func join(kind int, parts []api.Node) api.Node {
	if len(parts) == 1 {
		return parts[0]
	}
	return api.Node{Kind: kind, Kids: parts}
}

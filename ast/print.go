package ast

import (
	"strconv"
	"strings"

	"partywall/api"
	"partywall/label"
)

// The aggregate functions, as api numbers them.
const (
	aggCount = iota + api.AggCount
	aggSum
	aggMin
	aggMax
	aggFirst
	aggLast
)

// funcNames are the names of the aggregate functions.
var funcNames = [...]string{aggCount: "count", aggSum: "sum", aggMin: "min", aggMax: "max", aggFirst: "first", aggLast: "last"}

// opSigns are the signs of the comparisons.
var opSigns = [...]string{api.Eq: "=", api.Ne: "!=", api.Lt: "<", api.Le: "<=", api.Gt: ">", api.Ge: ">="}

// Print returns the text of a query, the error of Check, or ErrLong.
func Print(q api.Query) (string, api.Errno) {
	if err := Check(q); err != api.OK {
		return "", err
	}
	var w writer
	w.query(q)
	return w.text()
}

// Pattern returns the text of a node, the error of Sound, or ErrLong.
func Pattern(n api.Node) (string, api.Errno) {
	if err := Sound(n); err != api.OK {
		return "", err
	}
	var w writer
	w.node(n)
	return w.text()
}

// writer writes what is sound as a text.
type writer struct{ strings.Builder }

// text returns what was written, or ErrLong.
func (w *writer) text() (string, api.Errno) {
	if w.Len() > api.MaxQuery {
		return "", api.ErrLong
	}
	return w.String(), api.OK
}

// query writes a query.
func (w *writer) query(q api.Query) {
	w.node(q.Pattern)
	w.WriteString(" within ")
	w.number(int64(q.Within))
	writeList(w, " having ", q.Having, " and ", "", w.have)
	writeList(w, " emit ", q.Emit, ", ", "", w.agg)
}

// node writes a node.
func (w *writer) node(n api.Node) {
	switch n.Kind {
	case api.Single:
		w.atom(n.Atom)
		w.times(n.Min, n.Max)
	case api.Not:
		w.WriteString("not ")
		w.atom(n.Atom)
	case api.Seq:
		w.kids(n, " ; ")
	case api.Alt:
		w.kids(n, " | ")
	}
}

// kids writes the Kids of a node.
func (w *writer) kids(n api.Node, between string) {
	writeList(w, "", n.Kids, between, "", func(kid api.Node) {
		// A Seq binds closer than an Alt: as the Kid of one it needs no parentheses.
		if kid.Kind != api.Alt && kid.Kind != n.Kind {
			w.node(kid)
			return
		}
		w.WriteByte('(')
		w.node(kid)
		w.WriteByte(')')
	})
}

// times writes how often an atom stands, unless it is once.
func (w *writer) times(least, most int) {
	if least == 1 && most == 1 {
		return
	}
	writeList(w, "{", []int{least, most}, ",", "}", func(n int) { w.number(int64(n)) })
}

// atom writes an atom.
func (w *writer) atom(a api.Atom) {
	w.WriteByte('A' + byte(a.Kind))
	if a.Bounded {
		w.WriteByte('@')
		w.WriteString(label.Text(a.Bound))
	}
	writeList(w, "[", a.Conds, ",", "]", w.cond)
	if a.Name != "" {
		w.WriteByte(':')
		w.WriteString(a.Name)
	}
}

// cond writes a condition.
func (w *writer) cond(c api.Cond) {
	w.WriteString(opSigns[c.Op])
	w.number(c.Value)
}

// have writes a condition on an aggregate.
func (w *writer) have(h api.Have) {
	w.agg(h.Agg)
	w.WriteByte(' ')
	w.cond(h.Cond)
}

// agg writes an aggregate.
func (w *writer) agg(a api.Agg) {
	w.WriteString(funcNames[a.Func])
	w.WriteByte('(')
	w.WriteString(a.Name)
	w.WriteByte(')')
}

// number writes a number in decimal digits.
func (w *writer) number(n int64) { w.WriteString(strconv.FormatInt(n, 10)) }

// writeList writes items with what stands before, between and behind them, or nothing if there are none.
func writeList[X any](w *writer, before string, items []X, between, behind string, write func(x X)) {
	if len(items) == 0 {
		return
	}
	w.WriteString(before)
	for i, x := range items {
		if i > 0 {
			w.WriteString(between)
		}
		write(x)
	}
	w.WriteString(behind)
}

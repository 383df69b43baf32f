package ast_test

import (
	"reflect"
	"testing"

	"partywall/api"
	"partywall/ast"
)

// changes are changes of one thing of a query each: what is changed is a list, or has another value then.
func changes() []func(q *api.Query) {
	all := []func(q *api.Query){
		func(q *api.Query) { q.Within++ },
		func(q *api.Query) { q.Within += 1 << 32 },
		func(q *api.Query) { q.Having = nil },
		func(q *api.Query) { q.Having = q.Having[:1] },
		func(q *api.Query) { q.Having = append(q.Having, q.Having[1]) },
		func(q *api.Query) { q.Having[0], q.Having[1] = q.Having[1], q.Having[0] },
		func(q *api.Query) { q.Having[1].Agg.Func = 9 },
		func(q *api.Query) { q.Having[0].Agg.Name = "y" },
		func(q *api.Query) { q.Having[1].Cond.Op-- },
		func(q *api.Query) { q.Having[1].Cond.Value = 1 << 40 },
		func(q *api.Query) { q.Emit = nil },
		func(q *api.Query) { q.Emit = q.Emit[1:] },
		func(q *api.Query) { q.Emit = append(q.Emit, api.Agg{}) },
		func(q *api.Query) { q.Emit[0], q.Emit[1] = q.Emit[1], q.Emit[0] },
		func(q *api.Query) { q.Emit[1].Func = -1 },
		func(q *api.Query) { q.Emit[1].Name = "" },
		func(q *api.Query) { q.Pattern.Kids = nil },
		func(q *api.Query) { q.Pattern.Kids = q.Pattern.Kids[:2] },
		func(q *api.Query) { q.Pattern.Kids[0], q.Pattern.Kids[1] = q.Pattern.Kids[1], q.Pattern.Kids[0] },
		func(q *api.Query) { q.Pattern.Kids[0].Atom.Conds = nil },
		func(q *api.Query) { q.Pattern.Kids[0].Atom.Conds = q.Pattern.Kids[0].Atom.Conds[:1] },
		func(q *api.Query) { q.Pattern.Kids[0].Atom.Conds[1].Op = 0 },
		func(q *api.Query) { q.Pattern.Kids[0].Atom.Conds[0].Value++ },
		func(q *api.Query) { q.Pattern.Kids[2].Kids[1].Kids = []api.Node{{}} },
		func(q *api.Query) { *q = api.Query{} },
	}
	sample := full()
	for i := range pointers(&sample.Pattern) {
		for _, change := range []func(n *api.Node){
			func(n *api.Node) { n.Kind++ },
			func(n *api.Node) { n.Min = -5 },
			func(n *api.Node) { n.Max = 1 << 40 },
			func(n *api.Node) { n.Kids = append(n.Kids, one('Z')) },
			func(n *api.Node) { n.Atom.Kind = 40 },
			func(n *api.Node) { n.Atom.Bounded = !n.Atom.Bounded },
			func(n *api.Node) { n.Atom.Bound ^= 1 << 63 },
			func(n *api.Node) { n.Atom.Conds = append(n.Atom.Conds, api.Cond{}) },
			func(n *api.Node) { n.Atom.Name += "é" },
		} {
			all = append(all, func(q *api.Query) { change(pointers(&q.Pattern)[i]) })
		}
	}
	return all
}

// TestP8_4Changes: queries are equal exactly if nothing of them was changed, and if the same was changed.
func TestP8_4Changes(t *testing.T) {
	all := changes()
	var queries []api.Query
	for _, change := range append(all, func(q *api.Query) {}) {
		q := full()
		change(&q)
		queries = append(queries, q)
	}
	for i, a := range queries {
		for j, b := range queries {
			if i != j && reflect.DeepEqual(tidy(a), tidy(b)) {
				t.Fatalf("the changes %d and %d do the same", i, j)
			}
			if got := ast.Same(tidy(a), b); got != (i == j) {
				t.Errorf("Same of the changes %d and %d = %v", i, j, got)
			}
		}
	}
}

// TestP8_4Random: queries, sound or not, against a comparison of all parts.
func TestP8_4Random(t *testing.T) {
	equal, others := 0, 0
	for _, wrong := range []int{0, 10} {
		r := newRandom(int64(84+wrong), wrong)
		var queries, tidied []api.Query
		for range 1000 {
			q := r.query(1 + r.Intn(2))
			queries, tidied = append(queries, q), append(tidied, tidy(q))
		}
		for i, a := range queries {
			for j, b := range queries {
				want := reflect.DeepEqual(tidied[i], tidied[j])
				if got := ast.Same(a, b); got != want {
					t.Fatalf("Same(%+v, %+v) = %v", a, b, got)
				}
				if want {
					equal++
				} else {
					others++
				}
			}
		}
	}
	if equal < 2000 || others < 1000000 {
		t.Errorf("%d are equal, %d are not", equal, others)
	}
}

// TestP8_4Empty: lists that are nil and empty ones are equal, wherever they stand.
func TestP8_4Empty(t *testing.T) {
	nils := api.Query{Pattern: seq(one('A'), not(atom('B')), api.Node{})}
	empty := api.Query{Pattern: seq(one('A'), not(atom('B')), api.Node{}), Having: []api.Have{}, Emit: make([]api.Agg, 0, 5)}
	for _, n := range pointers(&empty.Pattern) {
		n.Atom.Conds = []api.Cond{}
		if n.Kids == nil {
			n.Kids = []api.Node{}
		}
	}
	if !ast.Same(nils, empty) || !ast.Same(empty, nils) || !ast.Same(api.Query{}, api.Query{Pattern: api.Node{Kids: []api.Node{}}}) {
		t.Error("empty lists are not equal to nil ones")
	}
}

// TestP8_4Deep: patterns of many levels, the deepest one of which may differ.
func TestP8_4Deep(t *testing.T) {
	for _, levels := range []int{200, 201, 1 << 16} {
		a, b := api.Query{Pattern: chain(levels, 1)}, api.Query{Pattern: chain(levels, 1)}
		if !ast.Same(a, b) {
			t.Errorf("%d levels are not the same", levels)
		}
		n := &b.Pattern
		for len(n.Kids) > 0 {
			n = &n.Kids[1]
		}
		n.Max++
		if ast.Same(a, b) {
			t.Errorf("%d levels are the same, but the deepest one differs", levels)
		}
	}
}

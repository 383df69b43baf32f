package ast_test

import (
	"slices"
	"testing"

	"partywall/api"
	"partywall/ast"
)

// result returns a result, or the error if there is one.
func result[X any](x X, e api.Errno) any {
	if e != api.OK {
		return e
	}
	return x
}

// results returns the items of a list, or the error if there is one.
func results[X any](l []X, e api.Errno) []any {
	if e != api.OK {
		return []any{e}
	}
	var items []any
	for _, x := range l {
		items = append(items, x)
	}
	return items
}

// kinds returns the Kinds of the atoms of a pattern.
func kinds(n api.Node) ([]int, api.Errno) {
	l, e := ast.Atoms(n)
	var k []int
	for _, a := range l {
		k = append(k, a.Kind)
	}
	return k, e
}

// TestExamples: the chapter's table, row by row.
func TestExamples(t *testing.T) {
	second := full()
	for i, c := range []struct{ got, want []any }{
		{[]any{result(ast.Print(api.Query{Pattern: one('A'), Within: 5}))}, []any{"A within 5"}},

		{[]any{result(ast.Print(second))}, []any{"A@{1,2}[>5,!=-7]:x{1,3} ; not B ; (C | D) within 10 having sum(x) >5 and count(x) <=3 emit min(x), last(x)"}},

		{[]any{result(ast.Pattern(alt(seq(one('A'), one('B')), one('C')))), result(ast.Pattern(seq(seq(one('A'), one('B')), one('C'))))}, []any{"A ; B | C", "(A ; B) ; C"}},

		{results(kinds(second.Pattern)), []any{0, 1, 2, 3}}, {results(ast.Negated(second.Pattern)), []any{false, true, false, false}}, {[]any{result(ast.Depth(second.Pattern)), result(ast.Nodes(second.Pattern))}, []any{3, 6}},

		{[]any{ast.Check(api.Query{Pattern: seq(one('A'))}), ast.Check(api.Query{Pattern: times(api.Atom{Name: "sum"}, 1, 1)}), ast.Check(api.Query{Pattern: one('A'), Within: 100000})}, []any{api.ErrForm, api.ErrForm, api.ErrForm}},

		{[]any{ast.Name("abc"), ast.Name("Abc"), ast.Name("and"), ast.Name("abcdefghi")}, []any{true, false, false, false}},
	} {
		if !slices.Equal(c.got, c.want) {
			t.Errorf("example %d: %v, not %v", i, c.got, c.want)
		}
	}
}

package ast_test

import (
	"reflect"
	"regexp"
	"slices"
	"testing"

	"partywall/api"
	"partywall/ast"
)

// smallAtoms are atoms that differ in one thing each, or whose texts are much alike.
func smallAtoms() []api.Atom {
	cond := func(ops ...int) []api.Cond {
		var l []api.Cond
		for _, op := range ops {
			l = append(l, api.Cond{Op: op, Value: -1})
		}
		return l
	}
	return []api.Atom{
		atom('A'), atom('B'), {Bounded: true}, {Bounded: true, Bound: 2}, {Bounded: true, Bound: 1 << 11}, {Bounded: true, Bound: 6}, {Conds: cond(3)}, {Conds: cond(4)},
		{Conds: cond(1)}, {Conds: cond(3, 1)}, {Conds: cond(1, 3)}, {Conds: []api.Cond{{Op: 3, Value: 1}}}, {Name: "a"}, {Name: "ab"}, {Name: "a", Bounded: true, Bound: 2, Conds: cond(6)},
	}
}

// grow returns all Seqs and Alts of two or three of these.
func grow(l []api.Node) []api.Node {
	var all []api.Node
	for _, a := range l {
		for _, b := range l {
			all = append(all, seq(a, b), alt(a, b))
			for _, c := range l {
				all = append(all, seq(a, b, c), alt(a, b, c))
			}
		}
	}
	return all
}

// manyPatterns returns patterns, no two of which are equal.
func manyPatterns() []api.Node {
	var all []api.Node
	for _, a := range smallAtoms() {
		all = append(all, not(a), times(a, 1, 1), times(a, 1, 2), times(a, 2, 1), times(a, 12, 1), times(a, 0, 0))
	}
	all = append(all, grow(all[:18])...)
	pairs := grow([]api.Node{one('A'), one('B')})
	return append(all, grow(append([]api.Node{one('C'), not(atom('C'))}, pairs...))...)
}

// manyQueries returns queries, no two of which are equal.
func manyQueries() []api.Query {
	aggs := [][]api.Agg{nil, {{Func: 1, Name: "a"}}, {{Func: 2, Name: "a"}}, {{Func: 1, Name: "ab"}}, {{Func: 1, Name: "a"}, {Func: 2, Name: "a"}}, {{Func: 2, Name: "a"}, {Func: 1, Name: "a"}}, {{Func: 1, Name: "a"}, {Func: 1, Name: "a"}}}
	conds := []api.Cond{{Op: 1, Value: 1}, {Op: 2, Value: 1}, {Op: 3, Value: 1}, {Op: 4, Value: 1}, {Op: 3, Value: -1}, {Op: 3, Value: 11}}
	var all []api.Query
	for _, n := range []api.Node{one('A'), times(atom('A'), 1, 11), seq(one('A'), one('B'))} {
		for _, within := range []uint64{0, 1, 11, 99999} {
			for _, emit := range aggs {
				for _, having := range aggs {
					for _, c := range conds {
						q := api.Query{Pattern: n, Within: within, Emit: emit}
						for _, a := range having {
							q.Having = append(q.Having, api.Have{Agg: a, Cond: c})
						}
						if len(having) > 0 || c == conds[0] {
							all = append(all, q)
						}
					}
				}
			}
		}
	}
	return all
}

// checkDiffer fails if one of these has no text, or two of them have the same.
func checkDiffer[X any](t *testing.T, all []X, text func(x X) (string, api.Errno)) {
	t.Helper()
	seen := map[string]X{}
	for _, x := range all {
		s, e := text(x)
		if e != api.OK {
			t.Fatalf("%+v: %v", x, e)
		}
		if other, there := seen[s]; there {
			t.Fatalf("%+v and %+v are both %q", x, other, s)
		}
		seen[s] = x
	}
}

// TestP8_5Differ: many queries that differ have texts that differ.
func TestP8_5Differ(t *testing.T) {
	patterns, queries := manyPatterns(), manyQueries()
	checkDiffer(t, patterns, ast.Pattern)
	checkDiffer(t, queries, ast.Print)
	if len(patterns) < 15000 || len(queries) < 1000 {
		t.Errorf("only %d patterns and %d queries", len(patterns), len(queries))
	}
}

// TestP8_5Equal: queries with the same text are equal, and those that are equal have the same text, with nil lists and with empty ones.
func TestP8_5Equal(t *testing.T) {
	r := newRandom(85, 0)
	seen := map[string]api.Query{}
	again := 0
	for range 50000 {
		q := r.query(1 + r.Intn(2))
		if r.Intn(2) == 0 {
			q = api.Query{Pattern: r.node(1)}
		}
		text, e := ast.Print(q)
		if e == api.ErrLong {
			continue
		}
		if other, _ := ast.Print(tidy(q)); other != text || e != api.OK {
			t.Fatalf("%+v is %q and %q, %v", q, text, other, e)
		}
		if other, there := seen[text]; there {
			again++
			if !ast.Same(q, other) || !reflect.DeepEqual(tidy(q), tidy(other)) {
				t.Fatalf("%+v and %+v are both %q", q, other, text)
			}
		}
		seen[text] = q
	}
	if again < 5000 || len(seen) < 10000 {
		t.Errorf("%d texts, %d of them again", len(seen), again)
	}
}

// someNodes calls yield with many sound nodes.
func someNodes(yield func(n api.Node)) {
	for _, n := range manyPatterns() {
		yield(n)
	}
	r := newRandom(86, 0)
	for range 3000 {
		yield(r.node(6))
	}
	for place := range 3 {
		yield(chain(200, place))
	}
}

// TestP8_6Leaves: there are as many atoms as nodes without Kids, and as many numbers of atoms that are negated.
func TestP8_6Leaves(t *testing.T) {
	someNodes(func(n api.Node) {
		atoms, e := ast.Atoms(n)
		negated, err := ast.Negated(n)
		if len(atoms) != len(leaves(n)) || len(negated) != len(atoms) || e != api.OK || err != api.OK {
			t.Fatalf("%+v: %d atoms, %d that may be negated, %d nodes without Kids, %v, %v", n, len(atoms), len(negated), len(leaves(n)), e, err)
		}
	})
}

// TestP8_7Kids: the atoms of a node with Kids are those of its Kids, one after the other, and so is what is negated.
func TestP8_7Kids(t *testing.T) {
	count := 0
	someNodes(func(n api.Node) {
		if len(n.Kids) == 0 {
			return
		}
		var atoms []api.Atom
		var negated []bool
		for _, k := range n.Kids {
			a, _ := ast.Atoms(k)
			b, _ := ast.Negated(k)
			atoms, negated = append(atoms, a...), append(negated, b...)
		}
		got, e := ast.Atoms(n)
		signs, err := ast.Negated(n)
		if !slices.EqualFunc(got, atoms, func(a, b api.Atom) bool { return reflect.DeepEqual(tidyAtom(a), tidyAtom(b)) }) || !slices.Equal(signs, negated) || e != api.OK || err != api.OK {
			t.Fatalf("%+v: %+v, %v, not %+v, %v", n, got, signs, atoms, negated)
		}
		count++
	})
	if count < 10000 {
		t.Errorf("only %d nodes", count)
	}
}

// TestP8_8Sizes: Depth is at most Nodes, and the text has a letter for each atom, which says its Kind.
func TestP8_8Sizes(t *testing.T) {
	letters := regexp.MustCompile(`[A-Z]`)
	someNodes(func(n api.Node) {
		levels, _ := ast.Depth(n)
		nodes, _ := ast.Nodes(n)
		if levels < 1 || levels > nodes {
			t.Fatalf("%+v: %d levels, %d nodes", n, levels, nodes)
		}
		text, e := ast.Pattern(n)
		if e == api.ErrLong {
			return
		}
		atoms, _ := ast.Atoms(n)
		found := letters.FindAllString(text, -1)
		for i, a := range atoms {
			if len(found) != len(atoms) || found[i] != string(rune('A'+a.Kind)) {
				t.Fatalf("%+v: the letters are %v", n, found)
			}
		}
	})
}

// TestP8_9Order: Same is reflexive and symmetric, for queries that are sound and others.
func TestP8_9Order(t *testing.T) {
	r := newRandom(89, 10)
	var queries []api.Query
	for _, change := range changes() {
		q := full()
		change(&q)
		queries = append(queries, q)
	}
	for range 300 {
		queries = append(queries, r.query(1+r.Intn(3)))
	}
	for _, a := range queries {
		if !ast.Same(a, a) || !ast.Same(a, tidy(a)) {
			t.Errorf("%+v is not the same as itself", a)
		}
		for _, b := range queries {
			if ast.Same(a, b) != ast.Same(b, a) {
				t.Errorf("%+v and %+v: the same one way, and not the other way", a, b)
			}
		}
	}
}

package ast_test

import (
	"reflect"
	"slices"
	"testing"

	"partywall/api"
	"partywall/ast"
)

// checkParts compares what is in a node with the definitions, and returns how many atoms it has.
func checkParts(t *testing.T, n api.Node) int {
	t.Helper()
	var atoms []api.Atom
	var negated []bool
	levels, nodes, err := 0, 0, api.ErrForm
	if isSound(n, 200) {
		for _, leaf := range leaves(n) {
			atoms, negated = append(atoms, tidyAtom(leaf.Atom)), append(negated, leaf.Kind == 2)
		}
		levels, nodes, err = depth(n), count(n), api.OK
	}
	got, e := ast.Atoms(n)
	for i := range got {
		got[i] = tidyAtom(got[i])
	}
	if e != err || len(got) != len(atoms) || len(got) > 0 && !reflect.DeepEqual(got, atoms) {
		t.Fatalf("Atoms(%+v) = %+v, %v, not %+v, %v", n, got, e, atoms, err)
	}
	if got, e := ast.Negated(n); e != err || !slices.Equal(got, negated) {
		t.Fatalf("Negated(%+v) = %v, %v, not %v, %v", n, got, e, negated, err)
	}
	if got, e := ast.Depth(n); e != err || got != levels {
		t.Fatalf("Depth(%+v) = %d, %v, not %d, %v", n, got, e, levels, err)
	}
	if got, e := ast.Nodes(n); e != err || got != nodes {
		t.Fatalf("Nodes(%+v) = %d, %v, not %d, %v", n, got, e, nodes, err)
	}
	return len(got)
}

// TestP8_3Literal: some patterns whose parts are written out.
func TestP8_3Literal(t *testing.T) {
	for _, c := range []struct {
		n             api.Node
		kinds         []int
		negated       []bool
		levels, nodes int
	}{
		{one('Q'), []int{16}, []bool{false}, 1, 1},
		{not(atom('R')), []int{17}, []bool{true}, 1, 1},
		{times(atom('A'), 3, 5), []int{0}, []bool{false}, 1, 1},
		{seq(one('B'), one('A')), []int{1, 0}, []bool{false, false}, 2, 3},
		{seq(one('A'), not(atom('A')), one('A')), []int{0, 0, 0}, []bool{false, true, false}, 2, 4},
		{alt(seq(one('D'), alt(one('C'), one('B'))), one('A')), []int{3, 2, 1, 0}, []bool{false, false, false, false}, 4, 7},
		{alt(one('A'), seq(one('B'), not(atom('C')))), []int{0, 1, 2}, []bool{false, false, true}, 3, 5},
		{seq(alt(one('A'), one('B')), alt(seq(one('C'), one('D')), one('E')), one('F')), []int{0, 1, 2, 3, 4, 5}, make([]bool, 6), 4, 10},
	} {
		if got, e := kinds(c.n); !slices.Equal(got, c.kinds) || e != api.OK {
			t.Errorf("Atoms(%v) = %v, %v", c.n, got, e)
		}
		if got, e := ast.Negated(c.n); !slices.Equal(got, c.negated) || e != api.OK {
			t.Errorf("Negated(%v) = %v, %v", c.n, got, e)
		}
		if got, e := ast.Depth(c.n); got != c.levels || e != api.OK {
			t.Errorf("Depth(%v) = %d, %v", c.n, got, e)
		}
		if got, e := ast.Nodes(c.n); got != c.nodes || e != api.OK {
			t.Errorf("Nodes(%v) = %d, %v", c.n, got, e)
		}
	}
}

// TestP8_3Random: many nodes, sound or not, against the definitions.
func TestP8_3Random(t *testing.T) {
	for i, wrong := range []int{0, 400} {
		r := newRandom(int64(83+i), wrong)
		atoms := 0
		for range 5000 {
			atoms += checkParts(t, r.node(6))
		}
		if atoms < 5000 {
			t.Errorf("only %d atoms", atoms)
		}
	}
}

// TestP8_3Errors: nothing is returned with the error of Sound.
func TestP8_3Errors(t *testing.T) {
	for _, n := range []api.Node{{}, {Kind: -1}, {Kind: 5, Kids: []api.Node{one('A'), one('B')}}, seq(one('A')), alt(one('A'), api.Node{}), times(atom('A'), 100, 1), seq(one('A'), not(atom('A'-1))), chain(201, 0), chain(1<<16, 2)} {
		if isSound(n, 200) {
			t.Errorf("%v is sound", n)
		}
		checkParts(t, n)
	}
}

// TestP8_3Edges: patterns of 200 levels, of many Kids, and the greatest and least numbers of atoms.
func TestP8_3Edges(t *testing.T) {
	for place := range 3 {
		checkParts(t, chain(200, place))
		checkParts(t, chain(199, place))
		if got, e := ast.Depth(chain(200, place)); got != 200 || e != api.OK {
			t.Errorf("Depth of 200 levels = %d, %v", got, e)
		}
	}
	wide := alt(slices.Repeat([]api.Node{one('A'), not(atom('B'))}, 50000)...)
	if got := checkParts(t, wide); got != 100000 {
		t.Errorf("%d atoms, not 100000", got)
	}
	q := full()
	if got, e := ast.Atoms(q.Pattern); e != api.OK || !reflect.DeepEqual(got[0], q.Pattern.Kids[0].Atom) {
		t.Errorf("Atoms = %v, %v", got, e)
	}
}

// TestP8_3Own: the atoms share no memory with the pattern, nor with each other.
func TestP8_3Own(t *testing.T) {
	conds := []api.Cond{{Op: 1, Value: 1}, {Op: 2, Value: 2}}
	n := seq(times(api.Atom{Conds: conds}, 1, 1), not(api.Atom{Conds: conds}), times(api.Atom{Conds: conds[:1]}, 1, 1))
	atoms, e := ast.Atoms(n)
	if e != api.OK || len(atoms) != 3 {
		t.Fatalf("%v, %v", atoms, e)
	}
	atoms[0].Conds[0].Op = 5
	_ = append(atoms[2].Conds, api.Cond{Op: 6})
	if conds[0].Op != 1 || conds[1].Op != 2 || atoms[1].Conds[0].Op != 1 || atoms[1].Conds[1].Op != 2 || atoms[2].Conds[0].Op != 1 {
		t.Errorf("%v and %v share memory", conds, atoms)
	}
	conds[1].Op = 4
	if atoms[0].Conds[1].Op != 2 || atoms[1].Conds[1].Op != 2 {
		t.Errorf("%v shares memory with %v", atoms, conds)
	}
}

// TestP8_3Kept: no function changes a query.
func TestP8_3Kept(t *testing.T) {
	q := full()
	ast.Check(q)
	ast.Sound(q.Pattern)
	ast.Print(q)
	ast.Pattern(q.Pattern)
	ast.Negated(q.Pattern)
	ast.Depth(q.Pattern)
	ast.Nodes(q.Pattern)
	ast.Same(q, full())
	atoms, _ := ast.Atoms(q.Pattern)
	atoms[0].Conds = append(atoms[0].Conds[:0], api.Cond{Op: 6})
	if !reflect.DeepEqual(q, full()) {
		t.Errorf("the query is %+v now", q)
	}
}

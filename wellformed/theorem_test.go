package wellformed_test

import (
	"reflect"
	"slices"
	"testing"

	"partywall/api"
	"partywall/ast"
	"partywall/parse"
	"partywall/wellformed"
)

// many calls yield with many well-formed queries.
func many(t *testing.T, seed int64, yield func(r random, q api.Query)) {
	t.Helper()
	r := newRandom(seed, 0)
	yield(r, read(t, full))
	for range 5000 {
		q := r.query()
		if e := wellformed.Check(q); e != api.OK {
			t.Fatalf("%+v: %v", q, e)
		}
		yield(r, q)
	}
}

// part returns some of the items of a list, in order.
func part[X any](r random, l []X) []X {
	var some []X
	for _, x := range l {
		if r.Intn(2) == 0 {
			some = append(some, x)
		}
	}
	return some
}

// TestP10_5Less: well-formed queries stay so if Haves or Emits are left out, and if Within is lower.
func TestP10_5Less(t *testing.T) {
	many(t, 105, func(r random, q api.Query) {
		lower := uint64(r.Intn(int(q.Within) + 1))
		for _, less := range []api.Query{
			{Pattern: q.Pattern, Within: q.Within, Having: q.Having},
			{Pattern: q.Pattern, Within: q.Within, Emit: q.Emit},
			{Pattern: q.Pattern, Within: q.Within, Having: part(r, q.Having), Emit: part(r, q.Emit)},
			{Pattern: q.Pattern, Within: lower, Having: q.Having, Emit: q.Emit},
			{Pattern: q.Pattern, Within: lower, Having: part(r, q.Having), Emit: part(r, q.Emit)},
			{Pattern: q.Pattern},
		} {
			if e := wellformed.Check(less); e != api.OK {
				t.Fatalf("%+v: %v", less, e)
			}
		}
	})
}

// TestP10_6Kids: the Kids of well-formed patterns are well-formed patterns, but for those that are Not, and so are theirs.
func TestP10_6Kids(t *testing.T) {
	kids, nots := 0, 0
	many(t, 106, func(_ random, q api.Query) {
		for _, p := range places(&q.Pattern) {
			want := api.OK
			if p.node.Kind == api.Not {
				want = api.ErrOrder
				nots++
				if p.node.Atom.Name != "" {
					t.Fatalf("%+v has a negated atom with a name", q)
				}
			}
			if e := wellformed.Pattern(*p.node); e != want {
				t.Fatalf("%+v: %v, not %v", *p.node, e, want)
			}
			kids++
		}
	})
	if kids < 20000 || nots < 1000 {
		t.Errorf("only %d nodes, %d of them Nots", kids, nots)
	}
}

// TestP10_7Print: the text of a well-formed query has at most 400 bytes and is read as the same query, or Print refuses it.
func TestP10_7Print(t *testing.T) {
	short, long := 0, 0
	many(t, 1070, func(_ random, q api.Query) {
		text, e := ast.Print(q)
		if e == api.ErrLong && text == "" {
			long++
			return
		}
		short++
		again, f := parse.Parse(text)
		if e != api.OK || len(text) > 400 || f != (api.Fault{}) || !ast.Same(again, q) || wellformed.Check(again) != api.OK {
			t.Fatalf("%+v: %q, %v, read as %+v, %v", q, text, e, again, f)
		}
	})
	if short < 2000 || long < 100 {
		t.Errorf("only %d texts, %d that are too long", short, long)
	}
}

// TestP10_7Haves: what a name is for does not change with Haves, nor with Emits and the window.
func TestP10_7Haves(t *testing.T) {
	count := 0
	many(t, 1071, func(r random, q api.Query) {
		names, e := wellformed.Names(q)
		alone := api.Query{Pattern: q.Pattern}
		others := append([]api.Query{alone, {Pattern: q.Pattern, Within: q.Within, Emit: q.Emit}}, withHaves(alone, names)...)
		for _, other := range others {
			if again, err := wellformed.Names(other); !slices.Equal(again, names) || err != e {
				t.Fatalf("Names(%+v) = %v, %v, not %v, %v", other, again, err, names, e)
			}
			for _, name := range append(names[:len(names):len(names)], "other", "") {
				number, e := wellformed.Named(q, name)
				again, err := wellformed.Named(other, name)
				if again != number || err != e {
					t.Fatalf("Named(%+v, %q) = %d, %v, not %d, %v", other, name, again, err, number, e)
				}
				count++
			}
		}
	})
	if count < 20000 {
		t.Errorf("only %d names", count)
	}
}

// withHaves returns a query with one Have for each of the names.
func withHaves(q api.Query, names []string) []api.Query {
	var all []api.Query
	for i, name := range names {
		q.Having = []api.Have{{Agg: api.Agg{Func: 1 + i%6, Name: name}, Cond: api.Cond{Op: 1 + i%6}}}
		all = append(all, q)
	}
	return all
}

// TestP10_8Once: with all Singles just once a well-formed pattern stays so, with the same names.
func TestP10_8Once(t *testing.T) {
	changed := 0
	many(t, 108, func(_ random, q api.Query) {
		single := copyQuery(q)
		for _, l := range leaves(&single.Pattern) {
			if l.node.Kind == api.Single {
				l.node.Min, l.node.Max = 1, 1
			}
		}
		if !reflect.DeepEqual(single, q) {
			changed++
		}
		if e, whole := wellformed.Pattern(single.Pattern), wellformed.Check(single); e != api.OK || whole != api.OK {
			t.Fatalf("%+v: %v, %v", single, e, whole)
		}
		names, _ := wellformed.Names(q)
		if again, e := wellformed.Names(single); !slices.Equal(again, names) || e != api.OK {
			t.Fatalf("%+v: %v, %v, not %v", single, again, e, names)
		}
	})
	if changed < 2000 {
		t.Errorf("only %d patterns were changed", changed)
	}
}

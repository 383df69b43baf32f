package lattice_test

import (
	"slices"
	"testing"

	"partywall/api"
	"partywall/lattice"
)

// family returns the labels with these texts.
func family(texts ...string) []uint64 {
	known := map[string]uint64{"{}": 0, "{0}": 1, "{1}": 2, "{2}": 4, "{0,1}": 3, "{0,2}": 5, "{1,2}": 6, "{0,1,2}": 7}
	var l []uint64
	for _, s := range texts {
		l = append(l, known[s])
	}
	return l
}

// one returns the label with this text.
func one(text string) uint64 { return family(text)[0] }

// list returns several results, or the error if there is one.
func list[X any](l []X, e api.Errno) []any {
	if e != api.OK {
		return []any{e}
	}
	results := []any{}
	for _, x := range l {
		results = append(results, x)
	}
	return results
}

// single returns one result, or the error if there is one.
func single[X any](x X, e api.Errno) []any { return list([]X{x}, e) }

// TestExamples: the chapter's table, row by row.
func TestExamples(t *testing.T) {
	for i, row := range []struct{ got, want []any }{
		{single(lattice.Join(family("{0}", "{1,2}"))), []any{one("{0,1,2}")}},
		{single(lattice.Join(family())), []any{one("{}")}},
		{single(lattice.Meet(family("{0,1}", "{1,2}"))), []any{one("{1}")}},
		{single(lattice.Meet(family())), []any{api.ErrMissing}},

		{list(lattice.Below(family("{0}", "{1}", "{0,1}", "{}"), one("{0,2}"))), []any{0, 3}},

		{list(lattice.Maximal(family("{0}", "{0,1}", "{2}", "{0,1}"))), []any{1, 2, 3}},
		{list(lattice.Minimal(family("{0}", "{0,1}", "{2}", "{0,1}"))), []any{0, 2}},

		{single(lattice.Chain(family("{}", "{0}", "{0,1}"))), []any{true}},
		{single(lattice.Chain(family("{0}", "{1}"))), []any{false}},
		{single(lattice.Height(family("{0}", "{1}", "{0,1}", "{0,1,2}"))), []any{3}},

		{list(lattice.Closure(family("{0}", "{1}"))), []any{one("{0}"), one("{1}"), one("{0,1}")}},
		{list(lattice.Closure(family("{0}", "{0}"))), []any{one("{0}")}},
		{list(lattice.Closure(family())), []any{}},

		{single(lattice.Cover(family("{0}", "{1}", "{2}"), one("{0,1}"))), []any{one("{0,1}")}},
		{single(lattice.Cover(family("{0}"), one("{1}"))), []any{api.ErrLabel}},
		{single(lattice.Cover(family("{1}", "{0}"), one("{0}"))), []any{one("{0,1}")}},
	} {
		if !slices.Equal(row.got, row.want) {
			t.Errorf("example %d: %v, not %v", i, row.got, row.want)
		}
	}
}

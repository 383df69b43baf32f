package flow_test

import (
	"reflect"
	"testing"

	"partywall/api"
	"partywall/ast"
	"partywall/flow"
	"partywall/wellformed"
)

// result returns a result, or the error if there is one.
func result[X any](x X, e api.Errno) any {
	if e != api.OK {
		return e
	}
	return x
}

// TestExamples: the chapter's table, row by row.
func TestExamples(t *testing.T) {
	const (
		l0, l1, l2, l01, l012 = uint64(1), uint64(2), uint64(4), uint64(3), uint64(7)
	)
	list := func(l ...any) []any { return l }
	q, p := read(t, "A@{0} ; not B@{1} ; C within 5"), read(t, "A@{0} ; B@{1} within 5")
	restricted, ofRestrict := flow.Restrict(q, l01)
	wrong := read(t, "A ; not B@{1} within 5")
	for i, c := range []struct{ got, want []any }{
		{list(result(flow.Read(q, l012)), result(flow.Read(p, l012)), result(flow.Least(q)), result(flow.Open(q)), result(flow.Open(p))), list(l012, l01, l01, true, false)},

		{list(flow.Check(q, l01), flow.Check(q, l0), flow.Check(p, l012)), list(api.OK, api.ErrLabel, api.OK)},

		{list(ofRestrict, result(ast.Print(restricted))), list(api.OK, "A@{0} ; not B@{1} ; C@{0,1} within 5")},

		{list(result(flow.Sees([]api.Class{{}, {Label: l0}, {Label: l01}, {Label: l2}}, l0)), result(flow.Sees(make([]api.Class, 9), l0))), list([]int{0, 1}, api.ErrFull)},

		{list(result(flow.Reads(p, none, l01)), result(flow.Reads(p, l1, l01)), result(flow.Reads(p, l01, l01)), result(flow.Reads(q, l01, l01))), list(true, true, false, true)},

		{list(flow.Check(wrong, none), flow.Check(wrong, none)), list(api.ErrOrder, wellformed.Check(wrong))},
	} {
		if !reflect.DeepEqual(c.got, c.want) {
			t.Errorf("example %d: %v, not %v", i, c.got, c.want)
		}
	}
}

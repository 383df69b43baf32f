package parse_test

import (
	"reflect"
	"testing"

	"partywall/api"
	"partywall/parse"
)

// result returns a result, or the fault if there is one.
func result[X any](x X, f api.Fault) any {
	if f != (api.Fault{}) {
		return f
	}
	return x
}

// TestExamples: the chapter's table, row by row.
func TestExamples(t *testing.T) {
	second := "A@{1,2}[>3,!=-1]:x{1,3} ; not C ; (D|E;F) within 0 having sum(x) >=10 emit count(x), last(x)"
	list := func(l ...any) []any { return l }
	for i, c := range []struct{ got, want []any }{
		{list(result(parse.Parse("A;B within 5"))), list(api.Query{Pattern: seq(one('A'), one('B')), Within: 5})},

		{list(result(parse.Parse(second)), result(parse.Again(second))), list(full(), "A@{1,2}[>3,!=-1]:x{1,3} ; not C ; (D | E ; F) within 0 having sum(x) >=10 emit count(x), last(x)")},

		{list(result(parse.Again("(A) within 05")), result(parse.Again("((A;B);C)within 7")), result(parse.Again("A{1,1} within 1"))), list(fault(api.ErrForm, 11), "(A ; B) ; C within 7", "A within 1")},

		{list(result(parse.Parse("")), result(parse.Parse("A")), result(parse.Parse("A within")), result(parse.Parse("A within x")), result(parse.Parse("A B within 1"))), list(fault(api.ErrShort, 0), fault(api.ErrShort, 1), fault(api.ErrShort, 8), fault(api.ErrForm, 9), fault(api.ErrForm, 2))},

		{list(result(parse.Parse("A:within within 1")), result(parse.Parse("A:abcdefghi within 1")), result(parse.Parse("A@{64} within 1")), result(parse.Parse("A@{2,2} within 1")), result(parse.Parse("A{1,100} within 1")), result(parse.Parse("A within 100000"))), list(fault(api.ErrForm, 2), fault(api.ErrName, 2), fault(api.ErrRange, 3), fault(api.ErrOrder, 5), fault(api.ErrRange, 4), fault(api.ErrRange, 9))},

		{list(result(parse.Pattern("A|B")), result(parse.Pattern("A within 1")), result(parse.Atom("A:x")), result(parse.Atom("A{1,2}"))), list(alt(one('A'), one('B')), fault(api.ErrForm, 2), api.Atom{Name: "x"}, fault(api.ErrForm, 1))},
	} {
		if !reflect.DeepEqual(c.got, c.want) {
			t.Errorf("example %d: %+v, not %+v", i, c.got, c.want)
		}
	}
}

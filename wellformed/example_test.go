package wellformed_test

import (
	"reflect"
	"testing"

	"partywall/api"
	"partywall/wellformed"
)

// TestExamples: the chapter's table, row by row.
func TestExamples(t *testing.T) {
	check := func(text string) any { return wellformed.Check(read(t, text)) }
	list := func(l ...any) []any { return l }
	three := read(t, "A:x ; B ; C:y within 5")
	names, ofNames := wellformed.Names(three)
	number, ofNamed := wellformed.Named(three, "y")
	atoms, depth, ofRoom := wellformed.Room(three)
	uses, ofUses := wellformed.Uses(read(t, "A:x ; B:y within 5 having sum(y) > 1 emit min(x), max(y)"))
	for i, c := range []struct{ got, want []any }{
		{list(check("A within 5")), list(api.OK)},

		{list(check("A ; not B ; C within 5"), check("A ; not B within 5"), check("not B within 5"), check("(not B ; A) ; C within 5")), list(api.OK, api.ErrOrder, api.ErrOrder, api.ErrOrder)},

		{list(check("A ; not B ; not C ; D within 0"), check("A | not B within 5")), list(api.OK, api.ErrOrder)},

		{list(check("A{0,2} within 5"), check("A{2,1} within 5"), check("A{1,7} within 5"), check("A within 10001")), list(api.ErrRange, api.ErrRange, api.ErrRange, api.ErrRange)},

		{list(check("A:x ; B:x within 5"), check("A ; not B:x ; C within 5"), check("A:x within 5 emit sum(y)")), list(api.ErrExists, api.ErrName, api.ErrName)},

		{list(names, ofNames, number, ofNamed, atoms, depth, ofRoom), list([]string{"x", "y"}, api.OK, 2, api.OK, 3, 2, api.OK)},

		{list(uses, ofUses), list([]string{"y", "x"}, api.OK)},
	} {
		if !reflect.DeepEqual(c.got, c.want) {
			t.Errorf("example %d: %v, not %v", i, c.got, c.want)
		}
	}
}

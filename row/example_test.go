package row_test

import (
	"math"
	"slices"
	"strings"
	"testing"

	"partywall/api"
	"partywall/row"
)

// single returns one result, or the error if there is one.
func single[X any](x X, e api.Errno) []any {
	if e != api.OK {
		return []any{e}
	}
	return []any{x}
}

// read returns the rows, each as its offset and then its words, or the fault if there is one; / stands for a line feed.
func read(text string) []any {
	rows, f := row.Rows(strings.ReplaceAll(text, "/", "\n"))
	if f != (api.Fault{}) {
		return []any{f}
	}
	var results []any
	for _, r := range rows {
		results = append(results, r.At)
		for _, w := range r.Words {
			results = append(results, w)
		}
	}
	return results
}

// TestExamples: the chapter's table, row by row.
func TestExamples(t *testing.T) {
	form := []any{api.Fault{Err: api.ErrForm, At: 0}}
	made, e := row.Text([]api.Row{row.Make("a", "b c"), row.Make("7")})
	for i, c := range []struct{ got, want []any }{
		{read(`a "b c" # no/  x/`), []any{0, bare("a", 0), quoted("b c", 2), 13, bare("x", 15)}},

		{read(`"\x41\""`), []any{0, quoted(`A"`, 0)}}, {read(""), nil}, {read("# only"), nil},

		{read(`a"b`), form}, {read(`"a"b`), form}, {read(`"a`), form}, {read(`a\b`), form}, {read(`"\n"`), form},

		{single(made, e), []any{"a \"b c\"\n7\n"}},

		{single(row.Word(quoted("\xff", 0))), []any{`"\xff"`}}, {single(row.Word(bare("", 0))), []any{api.ErrForm}}, {[]any{row.Bare("a#"), row.Bare("#a")}, []any{true, false}},

		{single(row.Number(bare("07", 0), 0, math.MaxUint64)), []any{api.ErrForm}}, {single(row.Number(bare("18446744073709551616", 0), 0, math.MaxUint64)), []any{api.ErrRange}}, {single(row.Number(bare("5", 0), 6, 9)), []any{api.ErrRange}}, {single(row.Number(quoted("5", 0), 0, 9)), []any{api.ErrForm}},

		{single(row.Signed(bare("-5", 0))), []any{int64(-5)}}, {single(row.Signed(bare("-0", 0))), []any{api.ErrForm}}, {single(row.Signed(bare("-9223372036854775808", 0))), []any{int64(math.MinInt64)}}, {single(row.Signed(bare("9223372036854775808", 0))), []any{api.ErrRange}},

		{single(row.Which(bare("b", 0), "a", "b", "b")), []any{1}}, {single(row.Which(bare("c", 0), "a")), []any{api.ErrMissing}}, {single(row.Which(quoted("a", 0), "a")), []any{api.ErrMissing}},
	} {
		if !slices.Equal(c.got, c.want) {
			t.Errorf("example %d: %v, not %v", i, c.got, c.want)
		}
	}
}

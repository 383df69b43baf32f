package token_test

import (
	"math"
	"slices"
	"testing"

	"partywall/api"
	"partywall/token"
)

// all returns the tokens of a text, or the fault if there is one.
func all(text string) []any {
	l, f := token.Tokens(text)
	if f != (api.Fault{}) {
		return []any{f}
	}
	var results []any
	for _, t := range l {
		results = append(results, t)
	}
	return results
}

// next returns the next token and the offset behind it, or the fault if there is one.
func next(text string, at int) []any {
	t, behind, f := token.Next(text, at)
	if f != (api.Fault{}) {
		return []any{f}
	}
	return []any{t, behind}
}

// single returns one result, or the error if there is one.
func single[X any](x X, e api.Errno) []any {
	if e != api.OK {
		return []any{e}
	}
	return []any{x}
}

// TestExamples: the chapter's table, row by row.
func TestExamples(t *testing.T) {
	form := func(at int) []any { return []any{fault(api.ErrForm, at)} }
	for i, c := range []struct{ got, want []any }{
		{all("A;not B within 10"), []any{tok(2, "A", 0), tok(4, ";", 1), tok(1, "not", 2), tok(2, "B", 6), tok(1, "within", 8), tok(3, "10", 15)}},

		{all("AB<=-5x"), []any{tok(2, "A", 0), tok(2, "B", 1), tok(4, "<=", 2), tok(3, "-5", 4), tok(1, "x", 6)}}, {all(""), nil}, {all("< ="), []any{tok(4, "<", 0), tok(4, "=", 2)}},

		{all("A -"), form(2)}, {all("A 07"), form(2)}, {all("-0"), form(0)}, {all("A !B"), form(2)}, {all("é"), form(0)},

		{next("A B", 1), []any{tok(2, "B", 2), 3}}, {next("A", 1), []any{fault(api.ErrShort, 1)}}, {next("A", 2), []any{fault(api.ErrRange, 0)}},

		{single(token.Number(tok(3, "-5", 0), -9, 9)), []any{int64(-5)}}, {single(token.Number(tok(3, "10", 0), 0, 9)), []any{api.ErrRange}}, {single(token.Number(tok(3, "99999999999999999999", 0), math.MinInt64, math.MaxInt64)), []any{api.ErrRange}}, {single(token.Number(tok(1, "a", 0), 0, 9)), []any{api.ErrKind}},

		{[]any{token.Word("not"), token.Word("Not"), token.Word("x")}, []any{true, false, false}}, {single(token.Text([]api.Token{tok(4, "<", 0), tok(4, "=", 0)})), []any{"< ="}},
	} {
		if !slices.Equal(c.got, c.want) {
			t.Errorf("example %d: %v, not %v", i, c.got, c.want)
		}
	}
}

package sums_test

import (
	"slices"
	"testing"

	"partywall/api"
	"partywall/sums"
)

// single returns one result, or the error if there is one.
func single[X any](x X, e api.Errno) []any {
	if e != api.OK {
		return []any{e}
	}
	return []any{x}
}

// running returns the running sums, and the error if there is one.
func running(l ...int64) []any {
	sums, e := sums.Running(l)
	results := []any{}
	for _, n := range sums {
		results = append(results, n)
	}
	if e != api.OK {
		results = append(results, e)
	}
	return results
}

// cut returns what n is cut to and whether that is n, or the error if there is one.
func cut(n int64, count int) []any {
	got, same, e := sums.Cut(n, count)
	if e != api.OK {
		return []any{e}
	}
	return []any{got, same}
}

// TestExamples: the chapter's table, row by row.
func TestExamples(t *testing.T) {
	for i, row := range []struct{ got, want []any }{
		{single(sums.Add(greatest, 1)), []any{api.ErrSum}},
		{single(sums.Add(greatest, least)), []any{int64(-1)}},
		{single(sums.Sub(0, least)), []any{api.ErrSum}},
		{single(sums.Sub(-1, least)), []any{greatest}},
		{single(sums.Mul(least, -1)), []any{api.ErrSum}},
		{single(sums.Mul(1<<32, -1<<31)), []any{least}},
		{single(sums.Neg(least)), []any{api.ErrSum}},

		{single(sums.Sum(greatest, 1, -1)), []any{api.ErrSum}},
		{single(sums.Sum()), []any{int64(0)}},
		{running(1, 2, greatest), []any{int64(1), int64(3), api.ErrSum}},

		{single(sums.Next(most)), []any{api.ErrFull}},
		{single(sums.Next(4)), []any{uint64(5)}},
		{single(sums.Plus(most, 0)), []any{uint64(most)}},
		{single(sums.Plus(most, 1)), []any{api.ErrFull}},

		{single(sums.Ceil(7, 2)), []any{4}},
		{single(sums.Ceil(0, 9)), []any{0}},
		{single(sums.Ceil(1, 0)), []any{api.ErrRange}},
		{single(sums.Most(8, 8, 50)), []any{50}},
		{single(sums.Most(6, 8, 50)), []any{48}},

		{[]any{sums.Text(least)}, []any{"-9223372036854775808"}},
		{single(sums.Int("-9223372036854775808")), []any{least}},
		{single(sums.Int("9223372036854775808")), []any{api.ErrRange}},
		{single(sums.Int("-0")), []any{api.ErrForm}},
		{single(sums.Int("07")), []any{api.ErrForm}},
		{single(sums.Int("+1")), []any{api.ErrForm}},
		{single(sums.Int("")), []any{api.ErrForm}},

		{single(sums.Nat("63", 63)), []any{uint64(63)}},
		{single(sums.Nat("64", 63)), []any{api.ErrRange}},
		{single(sums.Nat("18446744073709551615", 1<<64-1)), []any{uint64(1<<64 - 1)}},
		{single(sums.Nat("-1", 9)), []any{api.ErrForm}},

		{cut(255, 8), []any{int64(-1), false}},
		{cut(-1, 1), []any{int64(-1), true}},
		{cut(128, 9), []any{int64(128), true}},
		{cut(5, 65), []any{api.ErrRange}},
	} {
		if !slices.Equal(row.got, row.want) {
			t.Errorf("example %d: %v, not %v", i, row.got, row.want)
		}
	}
}

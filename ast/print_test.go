package ast_test

import (
	"math"
	"slices"
	"strings"
	"testing"

	"partywall/api"
	"partywall/ast"
)

// TestP8_2Literal: texts that are written out, of all that there is.
func TestP8_2Literal(t *testing.T) {
	a, b, c := one('A'), one('B'), one('C')
	for _, x := range []struct {
		n    api.Node
		want string
	}{
		{one('A'), "A"}, {one('Z'), "Z"}, {times(atom('M'), 0, 0), "M{0,0}"}, {times(atom('M'), 1, 2), "M{1,2}"}, {times(atom('M'), 0, 1), "M{0,1}"}, {times(atom('M'), 2, 1), "M{2,1}"}, {times(atom('M'), 99, 10), "M{99,10}"}, {times(atom('M'), 2, 2), "M{2,2}"},
		{not(atom('Z')), "not Z"}, {not(api.Atom{Kind: 1, Bounded: true, Bound: 1<<63 | 1, Conds: []api.Cond{{Op: 1}}, Name: "n"}), "not B@{0,63}[=0]:n"},
		{times(api.Atom{Bounded: true}, 1, 1), "A@{}"}, {times(api.Atom{Bounded: true}, 0, 3), "A@{}{0,3}"}, {times(api.Atom{Bounded: true, Bound: 1 << 10}, 1, 1), "A@{10}"},
		{times(api.Atom{Conds: []api.Cond{{Op: 1, Value: 1}, {Op: 2, Value: -2}, {Op: 3, Value: 30}, {Op: 4, Value: -40}, {Op: 5, Value: math.MaxInt64}, {Op: 6, Value: math.MinInt64}}}, 1, 1), "A[=1,!=-2,<30,<=-40,>9223372036854775807,>=-9223372036854775808]"},
		{times(api.Atom{Conds: []api.Cond{{Op: 1}, {Op: 1}}, Name: "abcdefgh"}, 0, 1), "A[=0,=0]:abcdefgh{0,1}"},
		{seq(a, b), "A ; B"}, {alt(a, b), "A | B"}, {seq(a, b, c, a), "A ; B ; C ; A"}, {alt(a, b, c, a), "A | B | C | A"},
		{seq(alt(a, b), c), "(A | B) ; C"}, {seq(a, seq(b, c)), "A ; (B ; C)"}, {alt(a, seq(b, c)), "A | B ; C"}, {alt(a, alt(b, c)), "A | (B | C)"}, {alt(alt(a, b), seq(b, c)), "(A | B) | B ; C"},
		{seq(not(atom('A')), b, not(atom('C'))), "not A ; B ; not C"}, {alt(not(atom('A')), b), "not A | B"},
		{alt(seq(alt(a, seq(b, c)), seq(a, b)), alt(seq(a, b), c)), "(A | B ; C) ; (A ; B) | (A ; B | C)"},
	} {
		if got, e := ast.Pattern(x.n); got != x.want || e != api.OK {
			t.Errorf("Pattern = %q, %v, not %q", got, e, x.want)
		}
		if got, e := ast.Print(api.Query{Pattern: x.n, Within: 7}); got != x.want+" within 7" || e != api.OK {
			t.Errorf("Print = %q, %v, not %q and its window", got, e, x.want)
		}
	}
}

// TestP8_2Queries: windows, Haves and Emits that are written out.
func TestP8_2Queries(t *testing.T) {
	have := func(f int, name string, op int, value int64) api.Have {
		return api.Have{Agg: api.Agg{Func: f, Name: name}, Cond: api.Cond{Op: op, Value: value}}
	}
	for _, x := range []struct {
		q    api.Query
		want string
	}{
		{api.Query{}, " within 0"}, {api.Query{Within: 99999}, " within 99999"},
		{api.Query{Having: []api.Have{have(1, "a", 1, 1)}}, " within 0 having count(a) =1"},
		{api.Query{Having: []api.Have{have(2, "b", 2, -1), have(3, "c", 3, math.MinInt64), have(4, "d", 4, 0), have(5, "e", 5, 10), have(6, "f", 6, math.MaxInt64)}}, " within 0 having sum(b) !=-1 and min(c) <-9223372036854775808 and max(d) <=0 and first(e) >10 and last(f) >=9223372036854775807"},
		{api.Query{Emit: []api.Agg{{Func: 3, Name: "abcdefgh"}}}, " within 0 emit min(abcdefgh)"},
		{api.Query{Within: 1, Emit: []api.Agg{{Func: 1, Name: "a"}, {Func: 2, Name: "a"}, {Func: 3, Name: "a"}, {Func: 4, Name: "a"}, {Func: 5, Name: "a"}, {Func: 6, Name: "a"}, {Func: 6, Name: "a"}}}, " within 1 emit count(a), sum(a), min(a), max(a), first(a), last(a), last(a)"},
		{api.Query{Within: 30, Having: []api.Have{have(1, "x", 5, 2)}, Emit: []api.Agg{{Func: 2, Name: "y"}}}, " within 30 having count(x) >2 emit sum(y)"},
	} {
		x.q.Pattern = one('A')
		if got, e := ast.Print(x.q); got != "A"+x.want || e != api.OK {
			t.Errorf("Print = %q, %v, not %q behind an A", got, e, x.want)
		}
	}
}

// TestP8_2Random: many queries against the definitions: the error of Check, ErrLong, or the text.
func TestP8_2Random(t *testing.T) {
	seen := map[api.Errno]int{}
	for i, wrong := range []int{0, 60} {
		r := newRandom(int64(82+i), wrong)
		for range 10000 {
			q := r.query(5)
			for _, c := range []struct {
				sound bool
				text  func() string
				got   func() (string, api.Errno)
			}{
				{isQuery(q), func() string { return queryText(q) }, func() (string, api.Errno) { return ast.Print(q) }},
				{isSound(q.Pattern, 200), func() string { return nodeText(q.Pattern) }, func() (string, api.Errno) { return ast.Pattern(q.Pattern) }},
			} {
				want, err := "", api.ErrForm
				if c.sound {
					want, err = c.text(), api.OK
				}
				if len(want) > 400 {
					want, err = "", api.ErrLong
				}
				if got, e := c.got(); got != want || e != err {
					t.Fatalf("%+v: %q, %v, not %q, %v", q, got, e, want, err)
				}
				seen[err]++
			}
		}
	}
	if seen[api.OK] < 1000 || seen[api.ErrForm] < 1000 || seen[api.ErrLong] < 1000 {
		t.Errorf("too few of some kind: %v", seen)
	}
}

// TestP8_2Long: texts of 399 to 402 bytes, of patterns and of queries.
func TestP8_2Long(t *testing.T) {
	for i := range 4 {
		err := api.OK
		if i > 1 {
			err = api.ErrLong
		}
		// 100 letters have 397 bytes, a name with its colon 2 to 5.
		n := seq(slices.Repeat([]api.Node{one('A')}, 100)...)
		n.Kids[50].Atom.Name = "abcd"[:i+1]
		want := nodeText(n)
		if len(want) != 399+i {
			t.Fatalf("%q has %d bytes", want, len(want))
		}
		if got, e := ast.Pattern(n); e != err || got != want && err == api.OK || got != "" && err != api.OK {
			t.Errorf("Pattern of %d bytes: %q, %v", len(want), got, e)
		}
		if got, e := ast.Print(api.Query{Pattern: n}); got != "" || e != api.ErrLong {
			t.Errorf("Print of %d bytes and more: %q, %v", len(want), got, e)
		}
		// 98 letters have 389 bytes, the window 10 to 13.
		q := api.Query{Pattern: seq(slices.Repeat([]api.Node{one('A')}, 98)...), Within: []uint64{10, 100, 1000, 10000}[i]}
		want = queryText(q)
		if len(want) != 399+i {
			t.Fatalf("%q has %d bytes", want, len(want))
		}
		if got, e := ast.Print(q); e != err || got != want && err == api.OK || got != "" && err != api.OK {
			t.Errorf("Print of %d bytes: %q, %v", len(want), got, e)
		}
	}
}

// TestP8_2LongErrors: what is too long has ErrLong only if it is sound.
func TestP8_2LongErrors(t *testing.T) {
	n := seq(slices.Repeat([]api.Node{one('A')}, 10000)...)
	if got, e := ast.Pattern(n); got != "" || e != api.ErrLong {
		t.Errorf("Pattern = %q, %v", got, e)
	}
	if got, e := ast.Print(api.Query{Pattern: n, Within: 99999}); got != "" || e != api.ErrLong {
		t.Errorf("Print = %q, %v", got, e)
	}
	for _, q := range []api.Query{{Pattern: n, Within: 100000}, {Pattern: n, Having: []api.Have{{}}}, {Pattern: n, Emit: []api.Agg{{}}}} {
		if got, e := ast.Print(q); got != "" || e != api.ErrForm {
			t.Errorf("Print of what is not sound = %q, %v", got, e)
		}
	}
	n.Kids[9999].Kind = 0
	if got, e := ast.Pattern(n); got != "" || e != api.ErrForm {
		t.Errorf("Pattern of what is not sound = %q, %v", got, e)
	}
}

// TestP8_2Deep: what is nested more and more, with all its parentheses, as far as there is room.
func TestP8_2Deep(t *testing.T) {
	n := seq(one('A'), one('B'))
	for around := range 80 {
		want, err := strings.Repeat("(", around)+"A ; B"+strings.Repeat(") ; B", around), api.OK
		if len(want) > 400 {
			want, err = "", api.ErrLong
		}
		if got, e := ast.Pattern(n); got != want || e != err {
			t.Errorf("Pattern = %q, %v, not %q, %v", got, e, want, err)
		}
		n = seq(n, one('B'))
	}
	for levels, want := range map[int]api.Errno{200: api.ErrLong, 201: api.ErrForm, 1 << 16: api.ErrForm} {
		if got, e := ast.Pattern(chain(levels, 0)); got != "" || e != want {
			t.Errorf("Pattern of %d levels: %q, %v", levels, got, e)
		}
		if got, e := ast.Print(api.Query{Pattern: chain(levels, 1)}); got != "" || e != want {
			t.Errorf("Print of %d levels: %q, %v", levels, got, e)
		}
	}
}

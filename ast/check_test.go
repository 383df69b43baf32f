package ast_test

import (
	"math"
	"strings"
	"testing"

	"partywall/api"
	"partywall/ast"
)

// TestP8_1Full: a query that has everything, and parts of it, are sound.
func TestP8_1Full(t *testing.T) {
	q := full()
	if e := ast.Check(q); e != api.OK {
		t.Errorf("Check = %v", e)
	}
	for _, n := range pointers(&q.Pattern) {
		if e := ast.Sound(*n); e != api.OK {
			t.Errorf("Sound(%v) = %v", *n, e)
		}
		if e := ast.Check(api.Query{Pattern: *n}); e != api.OK {
			t.Errorf("Check of %v = %v", *n, e)
		}
	}
}

// TestP8_1Singles: the edges of all that a Single has, one by one.
func TestP8_1Singles(t *testing.T) {
	check := func(what string, n api.Node, want bool) {
		t.Helper()
		e, inside, query := ast.Sound(n), ast.Sound(seq(one('A'), alt(one('B'), n))), ast.Check(api.Query{Pattern: n})
		if (e == api.OK) != want || e != api.OK && e != api.ErrForm || inside != e || query != e {
			t.Errorf("%s: %v, %v inside of another one, %v as a query", what, e, inside, query)
		}
	}
	for _, k := range []int{math.MinInt, -1, 0, 1, 13, 24, 25, 26, 1 << 8, 1 << 32, math.MaxInt} {
		check("Kind", times(api.Atom{Kind: k}, 1, 1), k >= 0 && k <= 25)
		check("Kind of a Not", not(api.Atom{Kind: k}), k >= 0 && k <= 25)
	}
	for _, n := range []int{math.MinInt, -100, -1, 0, 1, 98, 99, 100, 1 << 32, math.MaxInt} {
		check("Min", times(api.Atom{}, n, 0), n >= 0 && n <= 99)
		check("Max", times(api.Atom{}, 99, n), n >= 0 && n <= 99)
		check("Min of a Not", api.Node{Kind: api.Not, Min: n}, n == 0)
		check("Max of a Not", api.Node{Kind: api.Not, Max: n}, n == 0)
		check("Min of a Seq", api.Node{Kind: api.Seq, Min: n, Kids: []api.Node{one('A'), one('B')}}, n == 0)
		check("Max of an Alt", api.Node{Kind: api.Alt, Max: n, Kids: []api.Node{one('A'), one('B')}}, n == 0)
	}
	for _, b := range []uint64{0, 1, 6, 1 << 63, math.MaxUint64} {
		check("Bound", times(api.Atom{Bounded: true, Bound: b}, 1, 1), true)
		check("Bound of none", times(api.Atom{Bound: b}, 1, 1), b == 0)
		check("Bound of none in a Not", not(api.Atom{Bound: b}), b == 0)
	}
	for _, op := range []int{math.MinInt, -1, 0, 1, 2, 3, 4, 5, 6, 7, 1 << 32, math.MaxInt} {
		for _, v := range []int64{math.MinInt64, -1, 0, math.MaxInt64} {
			c := api.Cond{Op: op, Value: v}
			check("Op", times(api.Atom{Conds: []api.Cond{c}}, 1, 1), op >= 1 && op <= 6)
			check("Op behind others", not(api.Atom{Conds: []api.Cond{{Op: 1}, {Op: 6, Value: v}, c}}), op >= 1 && op <= 6)
		}
	}
	for _, s := range append([]string{"", "a", "x", "abcdefgh", "abcdefghi", "A", "a1", "a b"}, words...) {
		check("Name "+s, times(api.Atom{Name: s}, 1, 1), s == "" || isName(s))
		check("Name of a Not "+s, not(api.Atom{Name: s}), s == "" || isName(s))
	}
	check("many Conds", times(api.Atom{Conds: make([]api.Cond, 0, 9)}, 2, 1), true)
}

// TestP8_1Kinds: which kinds of nodes may have how many Kids, and an Atom.
func TestP8_1Kinds(t *testing.T) {
	kids := []api.Node{one('A'), not(atom('B')), seq(one('C'), one('D')), alt(one('E'), one('F'))}
	for _, kind := range []int{math.MinInt, -1, 0, 1, 2, 3, 4, 5, 1 << 32, math.MaxInt} {
		for most := range len(kids) + 1 {
			want := (kind == 1 || kind == 2) && most == 0 || (kind == 3 || kind == 4) && most >= 2
			if e := ast.Sound(api.Node{Kind: kind, Kids: kids[:most]}); (e == api.OK) != want || e != api.OK && e != api.ErrForm {
				t.Errorf("kind %d with %d Kids: %v", kind, most, e)
			}
		}
		for i, a := range []api.Atom{{}, {Conds: []api.Cond{}}, {Kind: 1}, {Kind: -1}, {Bounded: true}, {Bound: 1}, {Conds: []api.Cond{{Op: 1}}}, {Conds: []api.Cond{{}}}, {Name: "a"}} {
			n := api.Node{Kind: kind, Atom: a, Kids: kids[:2]}
			if e := ast.Sound(n); (e == api.OK) != (i < 2 && (kind == 3 || kind == 4)) || e != api.OK && e != api.ErrForm {
				t.Errorf("Sound(%v) = %v", n, e)
			}
		}
	}
}

// TestP8_1Kids: one Kid that is not sound is enough, wherever it stands; a Not and parts of the same kind may stand everywhere.
func TestP8_1Kids(t *testing.T) {
	for _, bad := range []api.Node{{}, {Kind: 5}, times(atom('@'), 1, 1), times(atom('A'), 0, 100), seq(one('A')), alt(), {Kind: api.Not, Min: 1}} {
		q := full()
		for _, n := range pointers(&q.Pattern) {
			kept := *n
			*n = bad
			if e := ast.Sound(q.Pattern); e != api.ErrForm {
				t.Errorf("Sound(%v) = %v", q.Pattern, e)
			}
			if e := ast.Check(q); e != api.ErrForm {
				t.Errorf("Check(%v) = %v", q, e)
			}
			*n = kept
		}
	}
	n := not(atom('A'))
	for _, p := range []api.Node{n, seq(n, n), alt(n, n), seq(seq(n, n), seq(n, n)), alt(alt(n, n), n, seq(n, alt(n, n)))} {
		if e := ast.Sound(p); e != api.OK {
			t.Errorf("Sound(%v) = %v", p, e)
		}
	}
}

// TestP8_1Depth: 200 levels are sound, 201 are not, nor are more, nor nodes that are among their own Kids.
func TestP8_1Depth(t *testing.T) {
	for place := range 3 {
		for _, levels := range []int{1, 2, 199, 200, 201, 202, 1000, 1 << 16} {
			want := api.OK
			if levels > 200 {
				want = api.ErrForm
			}
			n := chain(levels, place)
			if e := ast.Sound(n); e != want {
				t.Errorf("Sound of %d levels at %d = %v", levels, place, e)
			}
			if e := ast.Check(api.Query{Pattern: n}); e != want {
				t.Errorf("Check of %d levels at %d = %v", levels, place, e)
			}
		}
	}
	for _, kind := range []int{api.Single, api.Not, api.Seq, api.Alt} {
		kids := []api.Node{one('A'), one('B'), one('C')}
		for place := range kids {
			kids[place] = api.Node{Kind: kind, Kids: kids}
			if e := ast.Sound(kids[place]); e != api.ErrForm {
				t.Errorf("Sound of kind %d that is its own Kid = %v", kind, e)
			}
		}
	}
}

// TestP8_1Queries: the edges of Within, and of all that Haves and Emits have.
func TestP8_1Queries(t *testing.T) {
	check := func(q api.Query, want bool) {
		t.Helper()
		if e := ast.Check(q); (e == api.OK) != want || e != api.OK && e != api.ErrForm {
			t.Errorf("Check(%v) = %v", q, e)
		}
	}
	for _, w := range []uint64{0, 1, 10000, 10001, 99998, 99999, 100000, 100001, 1 << 32, 1 << 63, math.MaxUint64} {
		check(api.Query{Pattern: one('A'), Within: w}, w <= 99999)
	}
	good, behind := api.Agg{Func: 1, Name: "a"}, api.Have{Agg: api.Agg{Func: 6, Name: "b"}, Cond: api.Cond{Op: 6}}
	for _, n := range []int{math.MinInt, -1, 0, 1, 2, 3, 4, 5, 6, 7, 8, 1 << 32, math.MaxInt} {
		is := n >= 1 && n <= 6
		a := api.Agg{Func: n, Name: "x"}
		check(api.Query{Pattern: one('A'), Emit: []api.Agg{a}}, is)
		check(api.Query{Pattern: one('A'), Emit: []api.Agg{good, a, good}}, is)
		check(api.Query{Pattern: one('A'), Having: []api.Have{{Agg: a, Cond: api.Cond{Op: 1}}}}, is)
		check(api.Query{Pattern: one('A'), Having: []api.Have{behind, {Agg: good, Cond: api.Cond{Op: n, Value: -1}}, behind}}, is)
	}
	for _, s := range append([]string{"", "a", "x", "abcdefgh", "abcdefghi", "A", "a1", "a b"}, words...) {
		a := api.Agg{Func: 2, Name: s}
		check(api.Query{Pattern: one('A'), Emit: []api.Agg{good, a}}, isName(s))
		check(api.Query{Pattern: one('A'), Having: []api.Have{behind, {Agg: a, Cond: api.Cond{Op: 1}}}}, isName(s))
	}
	check(api.Query{}, false)
	check(api.Query{Pattern: one('A'), Having: make([]api.Have, 0, 9), Emit: []api.Agg{}}, true)
	check(api.Query{Pattern: one('A'), Having: []api.Have{{}}}, false)
	check(api.Query{Pattern: one('A'), Emit: []api.Agg{{}}}, false)
}

// TestP8_1Random: many nodes and queries against the definitions.
func TestP8_1Random(t *testing.T) {
	r := newRandom(81, 40)
	sound, others := 0, 0
	for range 20000 {
		q := r.query(4)
		for _, c := range []struct {
			e    api.Errno
			want bool
		}{{ast.Check(q), isQuery(q)}, {ast.Sound(q.Pattern), isSound(q.Pattern, 200)}} {
			if c.want && c.e != api.OK || !c.want && c.e != api.ErrForm {
				t.Fatalf("%+v: %v, but sound: %v", q, c.e, c.want)
			}
			if c.want {
				sound++
			} else {
				others++
			}
		}
	}
	if sound < 10000 || others < 10000 {
		t.Errorf("%d are sound, %d are not", sound, others)
	}
}

// TestP8_1Name: strings of all bytes, lengths about the limit, and the words of the language with more and less.
func TestP8_1Name(t *testing.T) {
	var names []string
	for i := range 256 {
		b := string([]byte{byte(i)})
		names = append(names, b, b+"a", "a"+b, "a"+b+"a", "abcdefg"+b, "abcdefgh"+b)
	}
	for n := range 20 {
		names = append(names, strings.Repeat("a", n), strings.Repeat("é", n))
	}
	for _, w := range words {
		names = append(names, w, w+"s", "a"+w, w+w, w[1:], w[:len(w)-1], strings.ToUpper(w), w+" ", " "+w)
	}
	names = append(names, "", "avg", "or", "ok", "aé", "a\x00", "x y", strings.Repeat("a", 1000000))
	count := 0
	for _, s := range names {
		if got, want := ast.Name(s), isName(s); got != want {
			t.Errorf("Name(%.20q) = %v", s, got)
		} else if got {
			count++
		}
	}
	if count < 100 {
		t.Errorf("only %d names", count)
	}
}

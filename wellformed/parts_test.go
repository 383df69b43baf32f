package wellformed_test

import (
	"reflect"
	"slices"
	"strings"
	"testing"

	"partywall/api"
	"partywall/wellformed"
)

// checkPattern fails unless Pattern has the error of Check for a query with nothing but this pattern, and this is the one meant.
func checkPattern(t *testing.T, n api.Node, want api.Errno) {
	t.Helper()
	if e, other := wellformed.Pattern(n), wellformed.Check(api.Query{Pattern: n}); e != want || other != want || errorOf(api.Query{Pattern: n}) != want {
		t.Fatalf("%+v: Pattern %v, Check %v, not %v", n, e, other, want)
	}
}

// TestP10_2Pattern: patterns with each of the errors.
func TestP10_2Pattern(t *testing.T) {
	for text, want := range map[string]api.Errno{
		"A": api.OK, "A:x": api.OK, "A:x{1,6};not B;(C|D:y)": api.OK, full[:strings.Index(full, " within")]: api.OK,
		row(9, ";"): api.ErrFull, "(" + row(7, "|") + ");(" + row(6, "|") + ")": api.ErrFull, "A[=1,=1,=1,=1,=1]": api.ErrFull,
		"A;(B|(C;(D|(E;(F|G)))))": api.ErrDepth, "A{0,1}": api.ErrRange, "A{1,7}|B": api.ErrRange, "not A": api.ErrOrder, "A;not B": api.ErrOrder,
		"A:x;B:x": api.ErrExists, "A:x;not B:x;C": api.ErrExists, "A;not B:x;C": api.ErrName, "A:x;not B:y;C": api.ErrName,
	} {
		checkPattern(t, read(t, text).Pattern, want)
	}
	for _, n := range []api.Node{{}, {Kind: 5}, {Kind: -1}, times(api.Atom{Kind: 26}, 1, 1), times(api.Atom{Bound: 1}, 1, 1), times(api.Atom{}, 1, 100), seq(), alt(one('A')), seq(one('A'), api.Node{}), seq(not('A'), api.Node{Kind: api.Not, Min: 1}), chain(201, 0), chain(201, 1)} {
		checkPattern(t, n, api.ErrForm)
	}
}

// TestP10_2Random: many patterns; the window, Haves and Emits of the query do not matter.
func TestP10_2Random(t *testing.T) {
	alone := 0
	for i, wrong := range []int{0, 60} {
		r := newRandom(int64(1020+i), wrong)
		for range 5000 {
			q := r.query()
			kept := copyNode(q.Pattern)
			want := errorOf(api.Query{Pattern: q.Pattern})
			checkPattern(t, q.Pattern, want)
			if !reflect.DeepEqual(q.Pattern, kept) {
				t.Fatalf("%+v is %+v now", kept, q.Pattern)
			}
			if want != wellformed.Check(q) {
				alone++
			}
		}
	}
	if alone < 100 {
		t.Errorf("only %d patterns are right in a query that is not", alone)
	}
}

// TestP10_3Names: the names of atoms that are not negated, in order.
func TestP10_3Names(t *testing.T) {
	for text, want := range map[string]string{
		"A": "", "A;B": "", "A:x": "x", "A:x;B;C:y": "x y", "A:y;B;C:x": "y x", "A:zz;not B;C:b;D:a": "zz b a", "(A:c|B:b);(C;D:a|E:d)": "c b a d", "A:b|(B:a;C:d)|D:c": "b a d c", full: "x y z",
		"A:x within 5 emit sum(x)": "x", "A:x;B:y within 5 having sum(y) =1 emit sum(y)": "x y", "A:abcdefgh{1,6};B:a": "abcdefgh a",
	} {
		got, e := wellformed.Names(read(t, text))
		if !slices.Equal(got, strings.Fields(want)) || e != api.OK {
			t.Errorf("Names(%q) = %q, %v, not %q", text, got, e, want)
		}
	}
}

// TestP10_3Uses: the names that Haves and then Emits use, each once, where it stands first.
func TestP10_3Uses(t *testing.T) {
	for text, want := range map[string]string{
		"A:x;B:y": "", "A:x;B:y within 5 emit sum(y)": "y", "A:x;B:y within 5 having sum(y) =1": "y", "A:x;B:y within 5 having sum(y) =1 emit sum(x)": "y x", "A:x;B:y within 5 having sum(x) =1 emit sum(y)": "x y",
		"A:x;B:y;C:z within 5 having sum(z) =1 and min(x) =1 and max(z) =2 emit sum(x), first(y), last(z), last(y)": "z x y",
		"A:x;B:y within 5 emit sum(y), sum(x), sum(y), sum(x)":                                                      "y x",
		"A:x;B:y within 5 having sum(y) =1 and sum(y) =1 and sum(y) =1 and sum(y) =1":                               "y",
		"A:d;B:c;C:b;D:a within 5 having sum(a) =1 and sum(b) =1 emit sum(b), sum(c), sum(a), sum(d)":               "a b c d",
		full: "y x z",
	} {
		got, e := wellformed.Uses(read(t, text))
		if !slices.Equal(got, strings.Fields(want)) || e != api.OK {
			t.Errorf("Uses(%q) = %q, %v, not %q", text, got, e, want)
		}
	}
}

// TestP10_3Room: how many atoms there are, the negated ones too, and how deep the pattern is.
func TestP10_3Room(t *testing.T) {
	for text, want := range map[string][2]int{
		"A": {1, 1}, "A{3,6}": {1, 1}, "A;B": {2, 2}, "A|B": {2, 2}, "A;not B;not C;D": {4, 2}, "A;(B|C)": {3, 3}, "(A;B)|C": {3, 3}, row(8, ";"): {8, 2}, "A|B;not C;D": {4, 3}, "A;(B|(C;(D|(E;F))))": {6, 6}, "(" + row(6, "|") + ");(" + row(6, "|") + ")": {12, 3}, full: {6, 4},
	} {
		atoms, depth, e := wellformed.Room(read(t, text))
		if atoms != want[0] || depth != want[1] || e != api.OK {
			t.Errorf("Room(%q) = %d, %d, %v, not %v", text, atoms, depth, e, want)
		}
	}
}

// TestP10_4Named: the number of the atom with a name, among all atoms.
func TestP10_4Named(t *testing.T) {
	for text, want := range map[string]map[string]int{
		"A:x": {"x": 0}, "A;B:x": {"x": 1}, "A:x;B;C:y": {"x": 0, "y": 2}, "A;not B;not C;D:x": {"x": 3}, "(A|B:a);not C;(D:c;E|F:b)": {"a": 1, "c": 3, "b": 5}, full: {"x": 0, "y": 4, "z": 5}, "A{1,6};B:x{2,2};C:y": {"x": 1, "y": 2},
		"A:x;B:y within 5 having sum(y) =1 emit sum(y), sum(x)": {"x": 0, "y": 1},
	} {
		q := read(t, text)
		for _, name := range []string{"a", "b", "c", "x", "y", "z", "xx", "abcdefgh"} {
			number, is := want[name]
			err := api.OK
			if !is {
				err = api.ErrName
			}
			if got, e := wellformed.Named(q, name); got != number || e != err {
				t.Errorf("Named(%q, %q) = %d, %v, not %d, %v", text, name, got, e, number, err)
			}
		}
	}
}

// TestP10_4None: what is no name of the query, empty and strange names among it, and queries without names.
func TestP10_4None(t *testing.T) {
	for _, text := range []string{"A", "A;not B;C", "A:x", full} {
		for _, name := range []string{"", " ", "X", "A", "xx", "x ", " x", "within", "sum", "abcdefghi", "é", "\x00", "\xff", strings.Repeat("x", 1<<16)} {
			if got, e := wellformed.Named(read(t, text), name); got != 0 || e != api.ErrName {
				t.Errorf("Named(%q, %.20q) = %d, %v", text, name, got, e)
			}
		}
	}
}

// TestP10_4Errors: the error of Check comes first, whether or not there is an atom with the name.
func TestP10_4Errors(t *testing.T) {
	for text, want := range map[string]api.Errno{
		"A[=1,=1,=1,=1,=1]:x": api.ErrFull, "A:x;(B|(C;(D|(E;(F|G)))))": api.ErrDepth, "A:x{0,1}": api.ErrRange, "A:x;not B": api.ErrOrder, "A:x;B:x": api.ErrExists, "A:x;not B:y;C": api.ErrName, "B;A:x within 5 emit sum(y)": api.ErrName, "A:x within 10001": api.ErrRange,
	} {
		for _, name := range []string{"x", "y", ""} {
			if got, e := wellformed.Named(read(t, text), name); got != 0 || e != want {
				t.Errorf("Named(%q, %q) = %d, %v, not %v", text, name, got, e, want)
			}
		}
	}
	if got, e := wellformed.Named(api.Query{}, "x"); got != 0 || e != api.ErrForm {
		t.Errorf("Named of nothing = %d, %v", got, e)
	}
}

// once returns each item once, where it stands first.
func once(l []string) []string {
	var firsts []string
	for _, s := range l {
		if !slices.Contains(firsts, s) {
			firsts = append(firsts, s)
		}
	}
	return firsts
}

// TestP10_3Random: what is in many well-formed queries, against the definitions.
func TestP10_3Random(t *testing.T) {
	r := newRandom(103, 0)
	named, twice := 0, 0
	for range 10000 {
		q := r.query()
		kept := copyQuery(q)
		want, numbers := namesOf(q)
		names, e := wellformed.Names(q)
		if !slices.Equal(names, want) || e != api.OK {
			t.Fatalf("Names(%+v) = %v, %v, not %v", q, names, e, want)
		}
		uses, e := wellformed.Uses(q)
		if !slices.Equal(uses, once(used(q))) || e != api.OK {
			t.Fatalf("Uses(%+v) = %v, %v, not %v", q, uses, e, once(used(q)))
		}
		if atoms, depth, e := wellformed.Room(q); atoms != len(leaves(&q.Pattern)) || depth != depthOf(q.Pattern) || e != api.OK {
			t.Fatalf("Room(%+v) = %d, %d, %v", q, atoms, depth, e)
		}
		for i, name := range want {
			if number, e := wellformed.Named(q, name); number != numbers[i] || e != api.OK {
				t.Fatalf("Named(%+v, %q) = %d, %v, not %d", q, name, number, e, numbers[i])
			}
			named++
		}
		if len(uses) < len(used(q)) {
			twice++
		}
		checkKept(t, q, kept)
	}
	if named < 5000 || twice < 1000 {
		t.Errorf("only %d names, %d queries that use one twice", named, twice)
	}
}

// TestP10_3Own: results share no memory with the query, nor with each other.
func TestP10_3Own(t *testing.T) {
	q := read(t, full)
	kept := copyQuery(q)
	for range 2 {
		names, _ := wellformed.Names(q)
		uses, _ := wellformed.Uses(q)
		if !slices.Equal(names, []string{"x", "y", "z"}) || !slices.Equal(uses, []string{"y", "x", "z"}) {
			t.Fatalf("%v, %v", names, uses)
		}
		names[0], uses[0] = "other", "another"
		_, _ = append(names[:1], "more"), append(uses[:1], "more")
		checkKept(t, q, kept)
	}
}

package flow_test

import (
	"math"
	"reflect"
	"slices"
	"testing"

	"partywall/api"
	"partywall/ast"
	"partywall/flow"
	"partywall/wellformed"
)

// TestP11_1Atom: the Bound if the atom is Bounded, otherwise the clearance, whatever else the atom has, sound or not.
func TestP11_1Atom(t *testing.T) {
	atoms := []api.Atom{
		{}, {Kind: 25, Name: "x"}, {Kind: -1}, {Kind: math.MaxInt}, {Name: "within"}, {Name: "\xff"}, {Kind: 3, Conds: []api.Cond{{Op: 1, Value: 7}}}, {Conds: []api.Cond{{Op: -9, Value: math.MinInt64}}}, {Conds: make([]api.Cond, 9), Name: "abcdefghijk"},
	}
	for _, a := range atoms {
		for _, bound := range labels() {
			for _, clearance := range labels() {
				a.Bound = bound
				if a.Bounded = true; flow.Atom(a, clearance) != bound {
					t.Fatalf("Atom(%+v, %d) = %d", a, clearance, flow.Atom(a, clearance))
				}
				if a.Bounded = false; flow.Atom(a, clearance) != clearance {
					t.Fatalf("Atom(%+v, %d) = %d", a, clearance, flow.Atom(a, clearance))
				}
			}
		}
	}
}

// TestP11_1Read: the join of the labels that atoms read, the negated ones too, wherever they stand.
func TestP11_1Read(t *testing.T) {
	for text, want := range map[string]map[uint64]uint64{
		"A":                              {none: none, 5: 5, high: high, all: all},
		"A@{}":                           {none: none, 5: none, all: none},
		"A@{63}":                         {none: high, 1: high, all: high},
		"A@{0};B@{1}":                    {none: 3, 4: 3, all: 3},
		"A@{0}|B":                        {none: 1, 1: 1, 2: 3, 4: 5, all: all},
		"A;B@{0}":                        {none: 1, 2: 3, high: high | 1},
		"A@{0};not B@{1};C@{2}":          {none: 7, all: 7},
		"A@{0};not B;C@{2}":              {none: 5, 1: 5, 2: 7, 8: 13, all: all},
		"A@{};(B@{1}|(C@{2};D@{1,2,3}))": {none: 14, 1: 14},
		"A@{};(B@{}|(C@{};D))":           {none: none, 6: 6},
		"A@{};(B@{}|(C@{};not D;E@{}))":  {none: none, 6: 6},
		full:                             {none: 14, 1: 15, 2: 14, 16: 30, high: high | 14},
	} {
		for clearance, label := range want {
			if got, e := flow.Read(read(t, text), clearance); got != label || e != api.OK {
				t.Errorf("Read(%q, %d) = %d, %v, not %d", text, clearance, got, e, label)
			}
		}
	}
}

// TestP11_1Check: ErrLabel unless the read label is at most the clearance.
func TestP11_1Check(t *testing.T) {
	for text, want := range map[string]map[uint64]api.Errno{
		"A":                     {none: api.OK, 5: api.OK, high: api.OK, all: api.OK},
		"A@{}":                  {none: api.OK, 1: api.OK, all: api.OK},
		"A@{0,2}":               {none: api.ErrLabel, 1: api.ErrLabel, 4: api.ErrLabel, 10: api.ErrLabel, 5: api.OK, 7: api.OK, all - 1: api.ErrLabel, all: api.OK},
		"A@{63}":                {none: api.ErrLabel, all >> 1: api.ErrLabel, high: api.OK},
		"A@{0};B@{1}":           {1: api.ErrLabel, 2: api.ErrLabel, 3: api.OK},
		"A@{0};not B@{1};C@{0}": {1: api.ErrLabel, 2: api.ErrLabel, 3: api.OK},
		"A;not B@{1};C":         {none: api.ErrLabel, 1: api.ErrLabel, 2: api.OK},
		"A@{1}|B":               {none: api.ErrLabel, 1: api.ErrLabel, 2: api.OK},
		full:                    {none: api.ErrLabel, 6: api.ErrLabel, 8: api.ErrLabel, 14: api.OK, 15: api.OK},
	} {
		for clearance, err := range want {
			if e := flow.Check(read(t, text), clearance); e != err {
				t.Errorf("Check(%q, %d) = %v, not %v", text, clearance, e, err)
			}
		}
	}
}

// TestP11_1Errors: the error of wellformed.Check comes first, also where the query is not allowed, and nothing is told with it.
func TestP11_1Errors(t *testing.T) {
	loop := make([]api.Node, 2)
	loop[0], loop[1] = api.Node{Kind: api.Seq, Kids: loop}, api.Node{Kind: api.Single, Min: 1, Max: 1}
	unsound := map[string]api.Query{
		"nothing": {}, "no kind": {Pattern: api.Node{Kind: 5}}, "one Kid": {Pattern: api.Node{Kind: api.Seq, Kids: loop[1:]}}, "its own Kid": {Pattern: loop[0]},
		"kind 26":             {Pattern: api.Node{Kind: api.Single, Min: 1, Max: 1, Atom: api.Atom{Kind: 26}}},
		"Bound, not Bounded":  {Pattern: api.Node{Kind: api.Single, Min: 1, Max: 1, Atom: api.Atom{Bound: 1}}},
		"a Seq with an atom":  {Pattern: api.Node{Kind: api.Seq, Atom: api.Atom{Bounded: true, Bound: 1}, Kids: []api.Node{loop[1], loop[1]}}},
		"a window of 100,000": {Pattern: loop[1], Within: 100000},
	}
	for what, q := range unsound {
		checkError(t, what, q, api.ErrForm)
	}
	for text, want := range map[string]api.Errno{
		"A@{9}|B|C|D|E|F|G|H|I": api.ErrFull, "A@{9}[=0,=0,=0,=0,=0]": api.ErrFull, "A@{9}:x within 5 emit sum(x), sum(x), sum(x), sum(x), sum(x)": api.ErrFull,
		"A;(B|(C;(D|(E;(F|G@{9})))))": api.ErrDepth, "A@{9}{1,7}": api.ErrRange, "A@{9}{0,1};B": api.ErrRange, "A@{9} within 10001": api.ErrRange,
		"not A@{9}": api.ErrOrder, "A;not B@{9}": api.ErrOrder, "A@{9}|not B@{9}": api.ErrOrder,
		"A@{9}:x;B@{9}:x": api.ErrExists, "A;not B@{9}:x;C": api.ErrName, "A@{9} within 5 having sum(x) =1": api.ErrName,
	} {
		checkError(t, text, read(t, text), want)
	}
}

// checkError fails unless all functions have this error of wellformed.Check for a query, with nothing else.
func checkError(t *testing.T, what string, q api.Query, want api.Errno) {
	t.Helper()
	if e := wellformed.Check(q); e != want {
		t.Fatalf("%s: %v, not %v", what, e, want)
	}
	for _, clearance := range []uint64{none, 1, high, all} {
		failed := outcome{ofCheck: want, errors: [5]api.Errno{want, want, want, want, want}}
		if got := outcomeOf(q, none, clearance); !reflect.DeepEqual(got, failed) {
			// The query itself is not printed: it may be without an end.
			t.Errorf("%s, at %d: %v and %v, not %v and nothing else; Read %d, Least %d, Open %v, Reads %v", what, clearance, got.ofCheck, got.errors, want, got.read, got.least, got.open, got.reads)
		}
	}
}

// TestP11_1Random: Read and Check of many queries, against the definitions.
func TestP11_1Random(t *testing.T) {
	allowed, refused := 0, 0
	many(t, 1101, func(_ random, q api.Query) {
		for _, clearance := range labels() {
			want := joined(readBy(q, clearance))
			if got, e := flow.Read(q, clearance); got != want || e != api.OK {
				t.Fatalf("Read(%+v, %d) = %d, %v, not %d", q, clearance, got, e, want)
			}
			err := api.ErrLabel
			if within(want, clearance) {
				err = api.OK
				allowed++
			} else {
				refused++
			}
			if e := flow.Check(q, clearance); e != err {
				t.Fatalf("Check(%+v, %d) = %v, not %v", q, clearance, e, err)
			}
		}
	})
	if allowed < 10000 || refused < 10000 {
		t.Errorf("only %d queries are allowed, %d are not", allowed, refused)
	}
}

// TestP11_2Least: the join of the Bounds of the atoms that are Bounded, and whether an atom is not, the negated ones too.
func TestP11_2Least(t *testing.T) {
	for text, want := range map[string]struct {
		least uint64
		open  bool
	}{
		"A": {none, true}, "A@{}": {none, false}, "A@{63}": {high, false}, "A@{0,1,63}": {high | 3, false}, "A@{0};B": {1, true}, "A;B@{0}": {1, true}, "A|B": {none, true}, "A@{0}|B@{1}": {3, false},
		"A@{0};not B;C@{1}": {3, true}, "A@{0};not B@{2};C@{1}": {7, false}, "A@{0};not B@{};C@{1}": {3, false}, "A;not B@{2};C": {4, true},
		"A@{};(B@{1}|(C@{2};D@{1,2,3}))": {14, false}, "A@{};(B@{1}|(C@{2};D))": {6, true}, "A@{};(B@{1}|(C@{2};not D;E@{}))": {6, true}, full: {14, true},
	} {
		q := read(t, text)
		least, ofLeast := flow.Least(q)
		open, ofOpen := flow.Open(q)
		if least != want.least || open != want.open || ofLeast != api.OK || ofOpen != api.OK {
			t.Errorf("%q: Least %d, %v, Open %v, %v, not %v", text, least, ofLeast, open, ofOpen, want)
		}
	}
	opens := 0
	many(t, 1102, func(_ random, q api.Query) {
		var bounds []uint64
		atoms := leaves(&q.Pattern)
		for _, n := range atoms {
			if n.Atom.Bounded {
				bounds = append(bounds, n.Atom.Bound)
			}
		}
		if len(bounds) < len(atoms) {
			opens++
		}
		if least, e := flow.Least(q); least != joined(bounds) || e != api.OK {
			t.Fatalf("Least(%+v) = %d, %v, not %d", q, least, e, joined(bounds))
		}
		if open, e := flow.Open(q); open != (len(bounds) < len(atoms)) || e != api.OK {
			t.Fatalf("Open(%+v) = %v, %v", q, open, e)
		}
	})
	if opens < 300 || opens > 1200 {
		t.Errorf("%d queries are Open", opens)
	}
}

// TestP11_2Restrict: each atom without a Bound has the clearance as its Bound, the negated ones too, and nothing else differs.
func TestP11_2Restrict(t *testing.T) {
	for text, want := range map[string]string{
		"A": "A@{0,63}", "A@{}": "A@{}", "A@{5}": "A@{5}", "A;not B;C": "A@{0,63};not B@{0,63};C@{0,63}", "A@{1};not B[=1];C:x|D{2,3}": "A@{1};not B@{0,63}[=1];C@{0,63}:x|D@{0,63}{2,3}",
		full: "A@{1,2}[>3,!=-1]:x{1,3} ; not C@{3}[=0] ; not B@{0,63} ; (D@{}{2,2} | E@{0,63}[<9]:y) within 10 having sum(y) >=10 and min(x) <5 emit count(x), max(y)",
	} {
		if got, e := flow.Restrict(read(t, text), high|1); !reflect.DeepEqual(got, read(t, want)) || e != api.OK {
			t.Errorf("Restrict(%q) = %+v, %v", text, got, e)
		}
	}
	many(t, 1103, func(_ random, q api.Query) {
		for _, clearance := range labels() {
			want := copyQuery(q)
			for _, n := range leaves(&want.Pattern) {
				if !n.Atom.Bounded {
					n.Atom.Bounded, n.Atom.Bound = true, clearance
				}
			}
			if got, e := flow.Restrict(q, clearance); !reflect.DeepEqual(got, want) || e != api.OK {
				t.Fatalf("Restrict(%+v, %d) = %+v, %v", q, clearance, got, e)
			}
		}
	})
}

// TestP11_2Empty: lists that are empty, and not nil, are as good as none.
func TestP11_2Empty(t *testing.T) {
	q := read(t, "A@{0};not B;C")
	want := read(t, "A@{0};not B@{2};C@{2}")
	q.Having, q.Emit, q.Pattern.Atom.Conds = []api.Have{}, []api.Agg{}, []api.Cond{}
	for i := range q.Pattern.Kids {
		q.Pattern.Kids[i].Atom.Conds, q.Pattern.Kids[i].Kids = []api.Cond{}, []api.Node{}
	}
	if got, e := flow.Restrict(q, 4); !ast.Same(got, want) || e != api.OK {
		t.Errorf("Restrict(%+v) = %+v, %v", q, got, e)
	}
	if got, e := flow.Read(q, 4); got != 5 || e != api.OK {
		t.Errorf("Read(%+v) = %d, %v", q, got, e)
	}
}

// TestP11_2Own: a restricted query shares no memory with the query, nor with another one, and no parts of it share any.
func TestP11_2Own(t *testing.T) {
	many(t, 1104, func(_ random, q api.Query) {
		first, _ := flow.Restrict(q, 5)
		second, _ := flow.Restrict(q, 5)
		kept, keptSecond := copyQuery(q), copyQuery(second)
		spoil(first)
		checkKept(t, q, kept)
		checkKept(t, second, keptSecond)
	})
	conds := []api.Cond{{Op: api.Eq, Value: 1}}
	single := api.Node{Kind: api.Single, Min: 1, Max: 1, Atom: api.Atom{Conds: conds}}
	kids := []api.Node{single, single}
	group := api.Node{Kind: api.Alt, Kids: kids}
	got, e := flow.Restrict(api.Query{Pattern: api.Node{Kind: api.Seq, Kids: []api.Node{group, group}}}, 5)
	if e != api.OK {
		t.Fatal(e)
	}
	for i, n := range leaves(&got.Pattern) {
		n.Atom.Kind, n.Atom.Conds[0].Value = i, int64(i)
	}
	for i, n := range leaves(&got.Pattern) {
		if n.Atom.Kind != i || n.Atom.Conds[0].Value != int64(i) {
			t.Errorf("atom %d of %+v is that of another node, too", i, got)
		}
	}
}

// TestP11_2Reads: whether an atom, also a negated one, reads a label that this one is at most; no join of what they read is meant.
func TestP11_2Reads(t *testing.T) {
	for _, c := range []struct {
		text             string
		label, clearance uint64
		want             bool
	}{
		{"A", none, none, true}, {"A", 1, none, false}, {"A", 5, 5, true}, {"A", 4, 5, true}, {"A", 5, 4, false}, {"A", high, all, true}, {"A", all, all, true}, {"A", all, all >> 1, false},
		{"A@{}", none, all, true}, {"A@{}", 1, all, false}, {"A@{63}", high, none, true}, {"A@{63}", high, all, true}, {"A@{63}", high | 1, all, false},
		{"A@{0};B@{1}", 1, none, true}, {"A@{0};B@{1}", 2, none, true}, {"A@{0};B@{1}", 3, all, false}, {"A@{0}|B@{1}", 3, 3, false}, {"A@{0}|B", 3, 3, true}, {"A@{0}|B", 3, 2, false}, {"A@{0}|B", 1, 2, true},
		{"A@{0};not B@{1};C@{0}", 2, none, true}, {"A@{0};not B@{1};C@{0}", 3, all, false}, {"A@{0};not B;C@{0}", 6, 6, true}, {"A@{0};not B;C@{0}", 6, 2, false},
		{full, 6, none, true}, {full, 8, none, true}, {full, 14, none, false}, {full, 14, 14, true}, {full, 1, none, false},
	} {
		if got, e := flow.Reads(read(t, c.text), c.label, c.clearance); got != c.want || e != api.OK {
			t.Errorf("Reads(%q, %d, %d) = %v, %v", c.text, c.label, c.clearance, got, e)
		}
	}
	matter, not := 0, 0
	many(t, 1105, func(r random, q api.Query) {
		for _, label := range labels() {
			clearance := one(r, labels())
			want := slices.ContainsFunc(readBy(q, clearance), func(x uint64) bool { return within(label, x) })
			if got, e := flow.Reads(q, label, clearance); got != want || e != api.OK {
				t.Fatalf("Reads(%+v, %d, %d) = %v, %v", q, label, clearance, got, e)
			}
			if want {
				matter++
			} else {
				not++
			}
		}
	})
	if matter < 5000 || not < 5000 {
		t.Errorf("only %d labels are read, %d are not", matter, not)
	}
}

// classes returns classes with these labels, and with sizes and rates of any kind.
func classes(l ...uint64) []api.Class {
	var all []api.Class
	for i, x := range l {
		all = append(all, api.Class{Label: x, Size: 100 - 50*i, Rate: i - 3})
	}
	return all
}

// TestP11_3Sees: the numbers of the classes whose label is at most the clearance, ascending, each place for itself.
func TestP11_3Sees(t *testing.T) {
	for _, c := range []struct {
		classes   []api.Class
		clearance uint64
		want      []int
	}{
		{nil, none, nil}, {nil, all, nil}, {classes(), 1, nil}, {classes(none), none, []int{0}}, {classes(1), none, nil}, {classes(1), 2, nil}, {classes(1, none, 3, 2), 1, []int{0, 1}}, {classes(3, 2, 1, none), 2, []int{1, 3}},
		{classes(high, all, all>>1), high, []int{0}}, {classes(high, all, all>>1), all >> 1, []int{2}}, {classes(high, all, all>>1), all, []int{0, 1, 2}},
		{classes(1, 1, 2, 1), 1, []int{0, 1, 3}}, {make([]api.Class, 8), none, []int{0, 1, 2, 3, 4, 5, 6, 7}}, {classes(8, 4, 2, 1, 3, 5, 9, 15), 9, []int{0, 3, 6}},
	} {
		kept := slices.Clone(c.classes)
		if got, e := flow.Sees(c.classes, c.clearance); !slices.Equal(got, c.want) || e != api.OK {
			t.Errorf("Sees(%v, %d) = %v, %v, not %v", c.classes, c.clearance, got, e, c.want)
		}
		if !slices.Equal(c.classes, kept) {
			t.Errorf("%v is %v now", kept, c.classes)
		}
	}
	for _, x := range labels() {
		for _, y := range labels() {
			for _, clearance := range labels() {
				var want []int
				for i, l := range []uint64{x, none, y, x} {
					if within(l, clearance) {
						want = append(want, i)
					}
				}
				if got, e := flow.Sees(classes(x, none, y, x), clearance); !slices.Equal(got, want) || e != api.OK {
					t.Fatalf("Sees(%d {} %d %d, %d) = %v, %v, not %v", x, y, x, clearance, got, e, want)
				}
			}
		}
	}
}

// TestP11_3Full: more than 8 classes are too many, seen or not; 8 are not.
func TestP11_3Full(t *testing.T) {
	for _, n := range []int{0, 7, 8, 9, 10, 16, 64, 255, 256, 257, 65536, 65540} {
		for _, l := range []uint64{none, all} {
			list := slices.Repeat([]api.Class{{Label: l, Size: 1, Rate: 1}}, n)
			for _, clearance := range []uint64{none, 1, all} {
				got, e := flow.Sees(list, clearance)
				seen := 0
				if n <= 8 && within(l, clearance) {
					seen = n
				}
				if len(got) != seen || (e == api.ErrFull) != (n > 8) || (e == api.OK) != (n <= 8) {
					t.Errorf("Sees(%d classes %d, %d) = %v, %v", n, l, clearance, got, e)
				}
			}
		}
	}
}

package wellformed_test

import (
	"math"
	"testing"

	"partywall/api"
	"partywall/wellformed"
)

// checkError fails unless Check, the other functions of queries and the definition have this error, and nothing else is returned with it.
func checkError(t *testing.T, what string, q api.Query, want api.Errno) {
	t.Helper()
	names, ofNames := wellformed.Names(q)
	uses, ofUses := wellformed.Uses(q)
	number, ofNamed := wellformed.Named(q, "x")
	atoms, depth, ofRoom := wellformed.Room(q)
	if e := wellformed.Check(q); e != want || ofNames != want || ofUses != want || ofRoom != want || want != api.OK && ofNamed != want {
		t.Fatalf("%s: Check is %v, not %v; Names %v, Uses %v, Named %v, Room %v", what, e, want, ofNames, ofUses, ofNamed, ofRoom)
	}
	if e := errorOf(q); e != want {
		t.Fatalf("%s: by the definition %v, not %v", what, e, want)
	}
	if want != api.OK && (len(names) > 0 || len(uses) > 0 || number != 0 || atoms != 0 || depth != 0) {
		t.Fatalf("%s: %v, and with it %v, %v, %d, %d, %d", what, want, names, uses, number, atoms, depth)
	}
}

// checkTexts checks queries that are written as texts.
func checkTexts(t *testing.T, want api.Errno, texts ...string) {
	t.Helper()
	for _, text := range texts {
		checkError(t, text, read(t, text), want)
	}
}

// checkMost checks a query with so much of something, of which there may be at most so much.
func checkMost(t *testing.T, q api.Query, count, most int, tooMuch api.Errno) {
	t.Helper()
	if count <= most {
		tooMuch = api.OK
	}
	checkError(t, "too much?", q, tooMuch)
}

// inside returns patterns that contain a node, at several places, where it is at most four levels deep.
func inside(n api.Node) []api.Node {
	return []api.Node{n, seq(n, one('Y')), seq(one('Y'), n), alt(n, one('Y')), alt(one('Y'), n), alt(one('Y'), seq(one('Y'), n, one('Y'))), seq(one('Y'), alt(one('Y'), seq(n, one('Y'))))}
}

// unsound are changes of a query such as full, each of which makes it unsound.
func unsound() []func(q *api.Query) {
	return []func(q *api.Query){
		func(q *api.Query) { q.Within = 100000 },
		func(q *api.Query) { q.Within = math.MaxUint64 },
		func(q *api.Query) { q.Having[1].Agg.Func = 7 },
		func(q *api.Query) { q.Having[0].Agg.Name = "within" },
		func(q *api.Query) { q.Having[1].Cond.Op = 0 },
		func(q *api.Query) { q.Emit[2].Func = 0 },
		func(q *api.Query) { q.Emit[0].Name = "" },
		func(q *api.Query) { q.Pattern.Kind = 5 },
		func(q *api.Query) { q.Pattern.Kids = q.Pattern.Kids[:1] },
		func(q *api.Query) { q.Pattern.Min = 1 },
		func(q *api.Query) { q.Pattern.Atom.Kind = 1 },
		func(q *api.Query) { q.Pattern.Kids[0].Atom.Kind = 26 },
		func(q *api.Query) { q.Pattern.Kids[0].Atom.Bounded = false },
		func(q *api.Query) { q.Pattern.Kids[0].Atom.Conds[1].Op = 7 },
		func(q *api.Query) { q.Pattern.Kids[0].Atom.Name = "abcdefghi" },
		func(q *api.Query) { q.Pattern.Kids[0].Kids = []api.Node{one('A'), one('B')} },
		func(q *api.Query) { q.Pattern.Kids[0].Min = -1 },
		func(q *api.Query) { q.Pattern.Kids[0].Max = 100 },
		func(q *api.Query) { q.Pattern.Kids[1].Max = 1 },
		func(q *api.Query) { q.Pattern.Kids[1].Atom.Name = "and" },
		func(q *api.Query) { q.Pattern.Kids[3].Kids[1] = api.Node{} },
		func(q *api.Query) { q.Pattern.Kids[3] = chain(200, 1) },
	}
}

// TestP10_1Form: whatever makes a query unsound is ErrForm, also if all the rest is wrong, too.
func TestP10_1Form(t *testing.T) {
	const allWrong = "A@{3}[=0,=0,=0,=0,=0]:x{3,2} ; not C:x ; B ; (not D | not E | (F ; (G | (H ; (I | (J ; K)))))) within 99999 having sum(y) =1 and sum(u) =1 emit sum(y), sum(x), sum(v), sum(v), sum(v)"
	checkTexts(t, api.OK, full)
	checkTexts(t, api.ErrFull, allWrong)
	checkError(t, "nothing", api.Query{}, api.ErrForm)
	for _, change := range unsound() {
		for _, text := range []string{full, allWrong} {
			q := read(t, text)
			change(&q)
			checkError(t, text, q, api.ErrForm)
		}
	}
}

// TestP10_1Atoms: at most 12 atoms, the negated ones among them, wherever they stand.
func TestP10_1Atoms(t *testing.T) {
	for first := 1; first <= 8; first++ {
		for second := 1; second <= 8; second++ {
			for _, between := range []string{")|(", ");("} {
				for _, sign := range []string{";", "|", "{1,6};"} {
					text := "(" + row(first, sign) + between + row(second, sign) + ")"
					checkMost(t, read(t, text), first+second, 12, api.ErrFull)
				}
				if first < 8 && second < 8 {
					text := "(" + row(first, ";not ") + ";Y" + between + row(second, ";not ") + ";Z)"
					checkMost(t, read(t, text), first+second+2, 12, api.ErrFull)
				}
			}
		}
	}
	checkTexts(t, api.OK, "A;not B;not C;not D;("+row(8, "|")+")", "A{6,6};(B{6,6};(C|D;E;F|G;H;I|J;K;L))")
	checkTexts(t, api.ErrFull, "A;not B;not C;not D;not E;("+row(8, "|")+")", "A;(B;(C|D;E;F|G;H;I|J;K;L;M))")
}

// TestP10_1Kids: at most 8 Kids, in a Seq and in an Alt, wherever they stand.
func TestP10_1Kids(t *testing.T) {
	for count := 2; count <= 9; count++ {
		for _, sign := range []string{";", "|"} {
			for _, n := range inside(read(t, row(count, sign)).Pattern) {
				checkMost(t, api.Query{Pattern: n}, count, 8, api.ErrFull)
			}
		}
	}
	checkTexts(t, api.OK, "A;not B;not C;not D;not E;not F;not G;H", "A|B|C|D|E|F|G|(H;I;J;K;L)")
	checkTexts(t, api.ErrFull, "A;not B;not C;not D;not E;not F;not G;not H;I", row(9, "|"), row(12, ";"), row(9, ";")+"|J", "I|(J;("+row(9, "|")+"))")
	checkError(t, "many Kids", api.Query{Pattern: alt(make([]api.Node, 1<<16)...)}, api.ErrForm)
	wide := make([]api.Node, 1<<16)
	for i := range wide {
		wide[i] = one('A')
	}
	checkError(t, "many Kids", api.Query{Pattern: alt(alt(wide[:8]...), seq(wide[:9]...))}, api.ErrFull)
	if e := wellformed.Pattern(alt(wide...)); e != api.ErrFull {
		t.Errorf("many Kids: %v", e)
	}
}

// TestP10_1Conds: at most 4 Conds at each atom, also at a negated one.
func TestP10_1Conds(t *testing.T) {
	for count := range 8 {
		a := api.Atom{Kind: 3}
		for op := range count {
			a.Conds = append(a.Conds, api.Cond{Op: op%6 + 1, Value: int64(-op)})
		}
		for _, n := range append(inside(times(a, 1, 1)), inside(seq(one('A'), api.Node{Kind: api.Not, Atom: a}, one('B')))...) {
			checkMost(t, api.Query{Pattern: n}, count, 4, api.ErrFull)
		}
	}
	checkTexts(t, api.OK, "A[=1,=1,=1,=1];not B[=1,=1,=1,=1];C[=1,=1,=1,=1]")
}

// TestP10_1Aggs: at most 4 Haves, and at most 4 Emits.
func TestP10_1Aggs(t *testing.T) {
	for haves := range 7 {
		for emits := range 7 {
			q := read(t, "A:x;B:y")
			for i := range haves {
				q.Having = append(q.Having, api.Have{Agg: api.Agg{Func: 1 + i%6, Name: "x"}, Cond: api.Cond{Op: 1}})
			}
			for i := range emits {
				q.Emit = append(q.Emit, api.Agg{Func: 6 - i%6, Name: "y"})
			}
			checkMost(t, q, max(haves, emits), 4, api.ErrFull)
		}
	}
}

// TestP10_1Depth: at most 6 levels, wherever the deepest one is; more than 12 of them have too many atoms, more than 200 are not sound.
func TestP10_1Depth(t *testing.T) {
	for levels := 1; levels <= 205; levels++ {
		want := api.OK
		switch {
		case levels > 200:
			want = api.ErrForm
		case levels > 12:
			want = api.ErrFull
		case levels > 6:
			want = api.ErrDepth
		}
		for at := range 2 {
			checkError(t, "chain", api.Query{Pattern: chain(levels, at)}, want)
			if levels <= 7 {
				n := seq(one('A'), not('B'), chain(levels, at), not('C'), alt(one('D'), one('E')))
				checkMost(t, api.Query{Pattern: n}, levels+1, 6, api.ErrDepth)
			}
		}
	}
	checkTexts(t, api.OK, "A;(B|(C;(D|(E;F))))", "((((A|B);C)|D);E)|F", "A;(B;(C;(D;(E;not F;G))))", "A|(B|(C|(D|(E|F))))")
	checkTexts(t, api.ErrDepth, "A;(B|(C;(D|(E;(F|G)))))", "(((((A|B);C)|D);E)|F);G", "A;(B;(C;(D;(E;(F;not G;H)))))", "A|(B|(C|(D|(E|(F|G)))))", "A;(B;(C;(D;(E;(F;G))));H)")
}

// TestP10_1Times: numbers of times from 1 to 6, the first one at most the second one.
func TestP10_1Times(t *testing.T) {
	numbers := []int{0, 1, 2, 3, 5, 6, 7, 8, 50, 98, 99}
	for _, least := range numbers {
		for _, most := range numbers {
			want := api.ErrRange
			if 1 <= least && least <= most && most <= 6 {
				want = api.OK
			}
			for _, n := range append(inside(times(api.Atom{}, least, most)), seq(one('A'), not('B'), times(api.Atom{Name: "x"}, least, most), not('B'), one('A'))) {
				checkError(t, "times", api.Query{Pattern: n, Within: 10}, want)
			}
		}
	}
	for _, n := range []api.Node{times(api.Atom{}, -1, 1), times(api.Atom{}, 1, 100), times(api.Atom{}, math.MinInt, math.MaxInt)} {
		checkError(t, "times", api.Query{Pattern: n}, api.ErrForm)
	}
}

// TestP10_1Within: a window of at most 10,000 ticks.
func TestP10_1Within(t *testing.T) {
	for _, text := range []string{"A", full} {
		q := read(t, text)
		for within, want := range map[uint64]api.Errno{
			0: api.OK, 1: api.OK, 255: api.OK, 9999: api.OK, 10000: api.OK,
			10001: api.ErrRange, 65536: api.ErrRange, 99999: api.ErrRange,
			100000: api.ErrForm, 1 << 32: api.ErrForm, 1 << 63: api.ErrForm, math.MaxUint64: api.ErrForm,
		} {
			q.Within = within
			checkError(t, text, q, want)
		}
	}
}

// TestP10_1Nots: some patterns in which each Not stands right, or one does not.
func TestP10_1Nots(t *testing.T) {
	checkTexts(t, api.OK,
		"A;not B;C", "A;not B;not C;D", "A;not B;C;not D;E", "(A|B);not C;(D|E)", "(A;not B;C)|D", "D|(A;not B;C)", "A;not B;(C;D)", "(A;not B;C);not D;(E;not F;G)", "A;not A;A",
		"A{1,3};not B;C{2,2}", "A;not B;not C;not D;not E;not F;not G;H",
	)
	checkTexts(t, api.ErrOrder,
		"not A", "not A;B", "A;not B", "not A;not B", "A;B;not C", "not A;B;C", "A;not B;not C", "not A;not B;C", "not A;B;not C", "A|not B", "not A|B", "not A|not B", "A|not B|C",
		"(not A;B);C", "A;(B;not C)", "A;(B;not C);D", "A;(not B;C);D", "A;(B|not C);D", "A;(B|not C|D);E", "A;not B;(C|not D)", "A;not B;C|not D", "A;not B;C|D;not E",
		"A;not B;(not C;D)", "(A;not B);not C;D", "A;(not B;not C);D", "A|(B|(C;not D))",
	)
}

// TestP10_1NotsAll: all Seqs and Alts of two to four of some Kids, alone and inside of another node.
func TestP10_1NotsAll(t *testing.T) {
	kids := []api.Node{one('A'), not('B'), alt(one('C'), one('D')), seq(one('E'), not('F'), one('G')), alt(not('H'), one('I')), seq(one('J'), not('K'))}
	right := 0
	var grow func(chosen []api.Node)
	grow = func(chosen []api.Node) {
		if len(chosen) >= 2 {
			for _, kind := range []int{api.Seq, api.Alt} {
				n := api.Node{Kind: kind, Kids: chosen}
				for _, p := range []api.Node{n, seq(n, one('Y')), alt(one('Y'), n)} {
					q := api.Query{Pattern: p}
					want := errorOf(q)
					if want == api.OK {
						right++
					}
					checkError(t, "Nots", q, want)
				}
			}
		}
		if len(chosen) < 4 {
			for _, k := range kids {
				grow(append(chosen[:len(chosen):len(chosen)], k))
			}
		}
	}
	grow(nil)
	if right < 500 {
		t.Errorf("only %d patterns are right", right)
	}
}

// TestP10_1Twice: no two atoms have the same name, wherever they stand; many have none.
func TestP10_1Twice(t *testing.T) {
	checkTexts(t, api.OK, "A;A;A", "A:x;A:y", "A:x;A;A", "A:x;B:xx;C:xxx;D:y;E", "A:x|B:y", "(A:a;not B;C:b)|D:c", "A:x{2,3};B")
	checkTexts(t, api.ErrExists,
		"A:x;B:x", "A:x|B:x", "A:x;B;C:x", "A;B:x;C:x", "A:x;B:y;C:x", "A:y;(B:x|C);D:x", "(A:x;B)|(C;D:x)", "A:x;not B:x;C", "A;not B:x;C:x", "A;not B:x;not C:x;D",
		"A:abcdefgh;B:abcdefgh", "A:x;B:x;C:x",
	)
}

// TestP10_1Names: negated atoms have no names, and what is used is a name of the query.
func TestP10_1Names(t *testing.T) {
	checkTexts(t, api.OK,
		"A:x within 5 emit count(x)", "A:x within 5 having sum(x) =0 emit max(x), min(x)", "A;not B;C:y within 5 having last(y) =1",
		"A|(B:x;C:y) within 5 having first(y) =1 and first(x) =1 emit first(x)", "A:a;B:b",
	)
	checkTexts(t, api.ErrName,
		"A;not B:x;C", "A:y;not B:x;C:z", "A;not B:x;C within 5 emit count(x)", "A;not B:x;C within 5 having count(x) =1", "A;not B;not C:x;D", "(A;not B:x;C)|D",
		"A:x within 5 emit sum(y)", "A:x within 5 having sum(y) =1", "A within 5 emit sum(a)", "A within 5 having sum(a) =1", "A:x within 5 emit sum(xx)", "A:xx within 5 emit sum(x)",
		"A:x within 5 emit sum(x), sum(y)", "A:x within 5 emit sum(y), sum(x)", "A:x within 5 having sum(x) =1 and sum(y) =1", "A:x within 5 having sum(y) =1 and sum(x) =1",
		"A:x within 5 having sum(x) =1 emit sum(y)", "A:x within 5 having sum(y) =1 emit sum(x)",
	)
}

// spoiler is a change that makes a query wrong, without undoing another one.
type spoiler struct {
	err    api.Errno
	change func(q *api.Query)
}

// insert returns a change that puts a node between the others of a Seq.
func insert(n api.Node) func(q *api.Query) {
	return func(q *api.Query) {
		q.Pattern.Kids = append([]api.Node{q.Pattern.Kids[0], copyNode(n)}, q.Pattern.Kids[1:]...)
	}
}

// spoilers returns changes that have each of the errors, in the order of these.
func spoilers() []spoiler {
	named := func(n api.Node, name string) api.Node {
		n.Atom.Name = name
		return n
	}
	haves := func(name string, count int) func(q *api.Query) {
		return func(q *api.Query) {
			for range count {
				q.Having = append(q.Having, api.Have{Agg: api.Agg{Func: 1, Name: name}, Cond: api.Cond{Op: 1}})
			}
		}
	}
	emits := func(name string, count int) func(q *api.Query) {
		return func(q *api.Query) {
			for range count {
				q.Emit = append(q.Emit, api.Agg{Func: 1, Name: name})
			}
		}
	}
	nines := make([]api.Node, 9)
	for i := range nines {
		nines[i] = one('N')
	}
	return []spoiler{
		{api.ErrForm, insert(seq(one('A')))}, {api.ErrForm, insert(times(api.Atom{Kind: 26}, 1, 1))}, {api.ErrForm, func(q *api.Query) { q.Within += 100000 }}, {api.ErrForm, haves("sum", 1)}, {api.ErrForm, emits("", 1)},
		{api.ErrFull, insert(alt(nines...))}, {api.ErrFull, insert(alt(seq(nines[:6]...), seq(nines[:6]...)))}, {api.ErrFull, insert(times(api.Atom{Conds: []api.Cond{{Op: 1}, {Op: 1}, {Op: 1}, {Op: 1}, {Op: 1}}}, 1, 1))}, {api.ErrFull, haves("x", 5)}, {api.ErrFull, emits("y", 5)},
		{api.ErrDepth, insert(chain(6, 1))},
		{api.ErrRange, insert(times(api.Atom{}, 0, 1))}, {api.ErrRange, insert(times(api.Atom{}, 1, 7))}, {api.ErrRange, insert(times(api.Atom{}, 2, 1))}, {api.ErrRange, func(q *api.Query) { q.Within += 10001 }},
		{api.ErrOrder, insert(alt(one('A'), not('B')))}, {api.ErrOrder, insert(seq(not('A'), one('B')))}, {api.ErrOrder, func(q *api.Query) { q.Pattern.Kids = append(q.Pattern.Kids, not('C')) }},
		{api.ErrExists, insert(named(one('A'), "x"))}, {api.ErrExists, insert(named(not('A'), "y"))},
		{api.ErrName, insert(named(not('A'), "z"))}, {api.ErrName, haves("v", 1)}, {api.ErrName, emits("v", 1)},
	}
}

// TestP10_1First: of two errors, or three, the one that is named first. (Nothing but ErrFull has more than 12 atoms here.)
func TestP10_1First(t *testing.T) {
	all := spoilers()
	spoiled := func(changes ...spoiler) api.Query {
		q := read(t, "A:x;B:y within 5 having count(x) =1 emit count(y)")
		for _, s := range changes {
			s.change(&q)
		}
		return q
	}
	for i, a := range all {
		checkError(t, "one", spoiled(a), a.err)
		for j, b := range all[i+1:] {
			checkError(t, "two", spoiled(a, b), a.err)
			checkError(t, "two, the other way round", spoiled(b, a), a.err)
			for _, c := range all[i+j+2:] {
				checkError(t, "three", spoiled(b, a, c), a.err)
			}
		}
	}
}

// TestP10_1Random: many queries, well-formed or not, against the definition.
func TestP10_1Random(t *testing.T) {
	counts := map[api.Errno]int{}
	for i, wrong := range []int{0, 40, 150} {
		r := newRandom(int64(101+i), wrong)
		for range 6000 {
			q := r.query()
			kept, want := copyQuery(q), errorOf(q)
			checkError(t, "random", q, want)
			checkKept(t, q, kept)
			counts[want]++
			if wrong == 0 && want != api.OK {
				t.Fatalf("%+v: %v", q, want)
			}
		}
	}
	for _, err := range []api.Errno{api.OK, api.ErrForm, api.ErrFull, api.ErrDepth, api.ErrRange, api.ErrOrder, api.ErrExists, api.ErrName} {
		if counts[err] < 100 {
			t.Errorf("only %d queries with %v", counts[err], err)
		}
	}
}

// TestP10_1Own: nodes that are among their own Kids are not sound.
func TestP10_1Own(t *testing.T) {
	for _, kind := range []int{api.Single, api.Not, api.Seq, api.Alt} {
		for at := range 3 {
			kids := []api.Node{one('A'), one('B'), one('C')}
			kids[at] = api.Node{Kind: kind, Kids: kids}
			if e := wellformed.Check(api.Query{Pattern: kids[at]}); e != api.ErrForm {
				t.Errorf("kind %d, Kid %d: %v", kind, at, e)
			}
			if e := wellformed.Pattern(seq(one('A'), kids[at])); e != api.ErrForm {
				t.Errorf("kind %d, Kid %d: Pattern %v", kind, at, e)
			}
		}
	}
}

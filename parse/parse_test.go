package parse_test

import (
	"fmt"
	"math"
	"reflect"
	"slices"
	"strings"
	"testing"

	"partywall/api"
	"partywall/ast"
	"partywall/parse"
)

// TestP9_1Pattern: what each part of a pattern is read as.
func TestP9_1Pattern(t *testing.T) {
	a := func(a api.Atom) api.Node { return times(a, 1, 1) }
	cond := func(op int, value int64) api.Cond { return api.Cond{Op: op, Value: value} }
	for text, want := range map[string]api.Node{
		"A":                                  one('A'),
		"Z":                                  one('Z'),
		" \t\r\nM\n":                         one('M'),
		"not B":                              not('B'),
		"A{0,0}":                             times(api.Atom{}, 0, 0),
		"A{1,1}":                             one('A'),
		"A{99,2}":                            times(api.Atom{}, 99, 2),
		"A{ 7 , 99 }":                        times(api.Atom{}, 7, 99),
		"A@{}":                               a(api.Atom{Bounded: true}),
		"A@{0}":                              a(api.Atom{Bounded: true, Bound: 1}),
		"A @ { 0 , 5 ,63 }":                  a(api.Atom{Bounded: true, Bound: 1 | 1<<5 | 1<<63}),
		"A@{9,10}{9,10}":                     times(api.Atom{Bounded: true, Bound: 3 << 9}, 9, 10),
		"A[=0]":                              a(api.Atom{Conds: []api.Cond{cond(1, 0)}}),
		"A[=1,!=-2,<3,<=4,>-5,>=6]:abcdefgh": a(api.Atom{Conds: []api.Cond{cond(1, 1), cond(2, -2), cond(3, 3), cond(4, 4), cond(5, -5), cond(6, 6)}, Name: "abcdefgh"}),
		"A[<-9223372036854775808,>9223372036854775807]": a(api.Atom{Conds: []api.Cond{cond(3, math.MinInt64), cond(5, math.MaxInt64)}}),
		"A:x":                       a(api.Atom{Name: "x"}),
		"not A@{1}[<2]:nota":        {Kind: api.Not, Atom: api.Atom{Bounded: true, Bound: 2, Conds: []api.Cond{cond(3, 2)}, Name: "nota"}},
		"A;B":                       seq(one('A'), one('B')),
		"A|B|C":                     alt(one('A'), one('B'), one('C')),
		"A;B|C;not D|E":             alt(seq(one('A'), one('B')), seq(one('C'), not('D')), one('E')),
		"A;(B|C);D":                 seq(one('A'), alt(one('B'), one('C')), one('D')),
		"(A;B);C":                   seq(seq(one('A'), one('B')), one('C')),
		"A;(B;C)":                   seq(one('A'), seq(one('B'), one('C'))),
		"(A|B)|C":                   alt(alt(one('A'), one('B')), one('C')),
		"A|(B;C)":                   alt(one('A'), seq(one('B'), one('C'))),
		"(A)":                       one('A'),
		"(((A{2,3})));((not B))":    seq(times(api.Atom{}, 2, 3), not('B')),
		"((A;B))":                   seq(one('A'), one('B')),
		"((A|(B))|((C;(D));E))":     alt(alt(one('A'), one('B')), seq(seq(one('C'), one('D')), one('E'))),
		"A;A;A;A;A;A;A;A;A;A;A;A;A": seq(slices.Repeat([]api.Node{one('A')}, 13)...),
	} {
		got, f := parse.Pattern(text)
		check(t, text, got, want, f, api.Fault{})
		q, f := parse.Parse(text + " within 12")
		check(t, text, q, api.Query{Pattern: want, Within: 12}, f, api.Fault{})
	}
}

// TestP9_1Query: what each part behind a pattern is read as.
func TestP9_1Query(t *testing.T) {
	aggs := []api.Agg{{Func: 1, Name: "a"}, {Func: 2, Name: "b"}, {Func: 3, Name: "c"}, {Func: 4, Name: "d"}, {Func: 5, Name: "e"}, {Func: 6, Name: "f"}}
	var haves []api.Have
	for i, a := range aggs {
		haves = append(haves, api.Have{Agg: a, Cond: api.Cond{Op: i + 1, Value: int64(3 - i)}})
	}
	for text, want := range map[string]api.Query{
		"within 0":                     {},
		"within 99999":                 {Within: 99999},
		"within 7 having count ( a)=3": {Within: 7, Having: haves[:1]},
		"within 7 having count(a)=3 and sum(b)!=2 and min(c)<1 and max(d)<=0 and first(e)>-1 and last(f)>=-2": {Within: 7, Having: haves},
		"within 7 emit count(a)": {Within: 7, Emit: aggs[:1]},
		"within 7 emit count(a),sum(b),min(c),max(d),first(e),last(f)":      {Within: 7, Emit: aggs},
		"within 7 having count(a)=3 emit last(f),last(f)":                   {Within: 7, Having: haves[:1], Emit: []api.Agg{aggs[5], aggs[5]}},
		"within 7having count(a)=3and sum(b)!=2emit count(a),sum(b),min(c)": {Within: 7, Having: haves[:2], Emit: aggs[:3]},
	} {
		for _, n := range []api.Node{one('A'), alt(one('A'), not('B'))} {
			before, _ := ast.Pattern(n)
			want.Pattern = n
			got, f := parse.Parse(before + " " + text)
			check(t, text, got, want, f, api.Fault{})
		}
	}
	got, f := parse.Parse(fullText)
	check(t, fullText, got, full(), f, api.Fault{})
}

// TestP9_1Faults: each error in each place, and that the first token that has one has the fault.
func TestP9_1Faults(t *testing.T) {
	for err, faults := range map[api.Errno]map[string]int{
		api.ErrName: {
			"A:abcdefghi within 1": 2, "abcdefghi": 0, "A abcdefghi B": 2, "A within withinwithin": 9, "A within 1 havinghaving": 11,
			"A within 1 emit countcount(a)": 16, "A within 1 emit count(abcdefghi)": 22, "A@abcdefghi": 2,
			"A within 1 emit count(a) abcdefghi": 25, "not abcdefghi": 4,
		},
		api.ErrForm: {
			"A:within within 1": 2, "A B within 1": 2, "A within x": 9, "B 07": 2, "A B 07": 4, "A:B within 1": 2, "A:1 within 1": 2,
			"A within within": 9, "A x 1": 2, "a within 1": 0, "x": 0, "within 1": 0, "5": 0, "not not A": 4, "not (A)": 4,
			"not A{1,2}": 5, "(A){1,2}": 3, "A{1,2}{1,2}": 6, "A{1}": 3, "A{,1}": 2, "A{x,1}": 2, "A{}": 2, "A{1,2,3}": 5,
			"A{1;2}": 3, "()": 1, "(A within 1": 3, "A) within 1": 1, "A;|B": 2, "A;;B": 2, "A||B": 2, "|A": 0, ";A": 0,
			"A; within 1": 3, "A| within 1": 3, "(A;)": 3, "A@1": 2, "A@{,1}": 3, "A@{1,}": 5, "A@{1 2}": 5, "A@{x}": 3, "A@@": 2,
			"A@{1}@{1}": 5, "A[]": 2, "A[1]": 2, "A[=]": 3, "A[=x]": 3, "A[==1]": 3, "A[=1,]": 5, "A[=1 =2]": 5, "A[=1][=2]": 5,
			"A:x:y": 3, "A:x@{}": 3, "A:x[=1]": 3, "A[=1]@{}": 5, "A:x(": 3, "A within 1 2": 11, "A within 1 A": 11,
			"A within 1 and count(a)=1": 11, "A within 1 having emit count(a)": 18, "A within 1 having count(a) emit": 27,
			"A within 1 having count(a)=1 sum(b)=1": 29, "A within 1 having count(a)=1, sum(b)=1": 28,
			"A within 1 having count(a)=1 having": 29, "A within 1 having x(a)=1": 18, "A within 1 having count a": 24,
			"A within 1 having count(sum)=1": 24, "A within 1 having count(a b)": 26, "A within 1 emit count(a) and sum(b)": 25,
			"A within 1 emit count(a) sum(b)": 25, "A within 1 emit count(a)=1": 24, "A within 1 emit count(a) having": 25,
			"A within 1 emit count(a) emit": 25, "A within 1 emit within(a)": 16, "A within 1 emit COUNT": 16, "A Z abcdefghi": 2,
			"A B {100": 2, "A{1 100}": 4,
		},
		api.ErrRange: {
			"A{100,1}": 2, "A{1,100}": 4, "A{-1,1}": 2, "A{1,-1}": 4, "A{100,100": 2, "A within 100000": 9, "A within -1": 9,
			"A within 18446744073709551617": 9, "A@{64}": 3, "A@{-1}": 3, "A@{5,64}": 5, "A@{64,3}": 3, "A@{5,-1}": 5,
			"A[=9223372036854775808]": 3, "A[=-9223372036854775809]": 3, "A[<1,=99999999999999999999]": 6,
			"A within 1 having count(a)>9223372036854775808": 27, "A{18446744073709551617,1}": 2, "A@{18446744073709551616}": 3,
			"A{100}": 2, "A@{64 B": 3, "A within 100000 B": 9,
		},
		api.ErrOrder: {
			"A@{2,2}": 5, "A@{2,1}": 5, "A@{0,0}": 5, "A@{0,9,10,9,B": 10, "A@{10,9}": 6, "A@{63,0}": 6, "A@{1}|A@{2,3}|A@{3,2": 19,
		},
	} {
		for text, at := range faults {
			q, f := parse.Parse(text)
			check(t, text, q, api.Query{}, f, fault(err, at))
		}
	}
}

// TestP9_1Short: texts that end too early, at every place, also behind blanks.
func TestP9_1Short(t *testing.T) {
	for _, text := range []string{
		"", "A", "A within", "not", "not A", "(", "(A", "(A)", "A;", "A|", "A{", "A{1", "A{1,", "A{1,2", "A{1,2}", "A@", "A@{",
		"A@{1", "A@{1,", "A@{1}", "A[", "A[=", "A[=1", "A[=1,", "A[=1]", "A:", "A:x", "A within 1 having",
		"A within 1 having count", "A within 1 having count(", "A within 1 having count(a", "A within 1 having count(a)",
		"A within 1 having count(a)=", "A within 1 having count(a)=1 and", "A within 1 having count(a)=1 emit", "A within 1 emit",
		"A within 1 emit last", "A within 1 emit last(", "A within 1 emit last(a", "A within 1 emit last(a),",
	} {
		for _, blanks := range []string{"", " ", "\n\t\r  "} {
			q, f := parse.Parse(text + blanks)
			check(t, text+blanks, q, api.Query{}, f, fault(api.ErrShort, len(text+blanks)))
		}
	}
	most := strings.Repeat("(", 400)
	q, f := parse.Parse(most)
	check(t, most, q, api.Query{}, f, fault(api.ErrShort, 400))
}

// TestP9_1Tokens: the fault of the tokens comes first, wherever it is.
func TestP9_1Tokens(t *testing.T) {
	for text, want := range map[string]api.Fault{
		"B B 07": fault(api.ErrForm, 4), "within !": fault(api.ErrForm, 7), "A{100,100} within 100000 é": fault(api.ErrForm, 25),
		"abcdefghi -": fault(api.ErrForm, 10), "A@{2,1} -0": fault(api.ErrForm, 8), "A within 1 #": fault(api.ErrForm, 11),
		"A within 01": fault(api.ErrForm, 9), "\x00": fault(api.ErrForm, 0), "A=!": fault(api.ErrForm, 2),
		strings.Repeat("!", 401): fault(api.ErrLong, 400), "A within 1" + strings.Repeat(" ", 391): fault(api.ErrLong, 400), strings.Repeat("A;", 100000): fault(api.ErrLong, 400), strings.Repeat("(", 401): fault(api.ErrLong, 400),
	} {
		q, f := parse.Parse(text)
		check(t, text, q, api.Query{}, f, want)
		n, f := parse.Pattern(text)
		check(t, text, n, api.Node{}, f, want)
		a, f := parse.Atom(text)
		check(t, text, a, api.Atom{}, f, want)
		again, f := parse.Again(text)
		check(t, text, again, "", f, want)
	}
	text := "A within 1" + strings.Repeat(" ", 390)
	q, f := parse.Parse(text)
	check(t, "400 bytes", q, api.Query{Pattern: one('A'), Within: 1}, f, api.Fault{})
}

// TestP9_1Numbers: numbers at both ends of their limits and beyond, in each place.
func TestP9_1Numbers(t *testing.T) {
	g := readTable()
	texts := []string{"99999999999999999999", "-99999999999999999999", "18446744073709551616", "-18446744073709551616", "9223372036854775808", "-9223372036854775809", fmt.Sprint(math.MaxInt64), fmt.Sprint(math.MinInt64), strings.Repeat("9", 300), "-" + strings.Repeat("9", 300), "-1", "-99", "256", "65536", "65537", "4294967296", "4294967297"}
	for n := range 130 {
		texts = append(texts, fmt.Sprint(n))
	}
	for n := 99990; n < 100010; n++ {
		texts = append(texts, fmt.Sprint(n))
	}
	for _, n := range texts {
		for _, form := range []string{"A within %s", "A{%s,1}within 1", "A{1,%s}within 1", "A@{%s}within 1", "A@{0,%s}within 1", "A@{62,%s}within 1", "A[<%s]within 1", "A within 1 having count(a)=%s"} {
			text := fmt.Sprintf(form, n)
			want := g.fault("query", text)
			q, f := parse.Parse(text)
			if f != want {
				t.Fatalf("Parse(%q) = %+v, %v, not %v", text, q, f, want)
			}
			if printed, e := ast.Print(q); f == (api.Fault{}) && (e != api.OK || !strings.Contains(printed, n) && n != "1") {
				t.Fatalf("Parse(%q) is that of %q, %v", text, printed, e)
			}
		}
	}
}

// strange are tokens of all kinds, among them such as stand nowhere.
var strange = strings.Fields("A Z not within having and emit count sum min max first last x abcdefgh abcdefghi 0 1 -1 63 64 99 100 99999 100000 9223372036854775808 ; | { } , ( ) [ ] @ : = != < <= > >=")

// checkFault fails unless the fault of a text is that of the definition, and with a fault there is nothing else.
func checkFault(t *testing.T, g rules, text string) {
	t.Helper()
	q, f := parse.Parse(text)
	if want := g.fault("query", text); f != want || f != (api.Fault{}) && !reflect.DeepEqual(q, api.Query{}) {
		t.Fatalf("Parse(%q) = %+v, %v, not %v", text, q, f, want)
	}
}

// TestP9_1Beginnings: the beginnings of some texts and one or two other tokens behind them, against the grammar.
func TestP9_1Beginnings(t *testing.T) {
	g := readTable()
	r := newRandom(911)
	for _, sample := range samples {
		q, f := parse.Parse(sample)
		if f != (api.Fault{}) {
			t.Fatalf("Parse(%q): %v", sample, f)
		}
		tokens := r.tokensOf(q, 0)
		for i := range len(tokens) + 1 {
			before := strings.Join(tokens[:i], " ")
			for _, one := range strange {
				checkFault(t, g, before+" "+one)
				checkFault(t, g, before+" "+one+" "+strings.Join(tokens[i:], " "))
				for range 3 {
					checkFault(t, g, before+" "+one+" "+pick(r, strange...))
				}
			}
		}
	}
	for _, one := range strange {
		for _, other := range strange {
			for _, third := range strange {
				checkFault(t, g, one+" "+other+" "+third)
			}
		}
	}
}

// changed returns tokens with a change at random: some are left out, put in, exchanged, or cut off.
func (r random) changed(tokens []string) []string {
	l := slices.Clone(tokens)
	at := r.Intn(len(l))
	switch r.Intn(5) {
	case 0:
		return slices.Delete(l, at, at+1)
	case 1:
		return slices.Insert(l, at, pick(r, strange...))
	case 2:
		l[at] = pick(r, strange...)
	case 3:
		other := r.Intn(len(l))
		l[at], l[other] = l[other], l[at]
	case 4:
		return slices.Insert(l[:at:at], at, l[r.Intn(len(l)):]...)
	}
	return l
}

// TestP9_1Changed: texts of queries with changes at random, of tokens and of bytes, against the grammar.
func TestP9_1Changed(t *testing.T) {
	g := readTable()
	errors := map[api.Errno]int{}
	many(912, 12000, func(r random, _ api.Query, tokens []string, text string) {
		checkFault(t, g, text)
		l := tokens
		for range 1 + r.Intn(3) {
			if l = r.changed(l); len(l) == 0 {
				return
			}
		}
		text = r.spaced(l)
		checkFault(t, g, text)
		errors[g.fault("query", text).Err]++
		at := r.Intn(len(text))
		checkFault(t, g, text[:at]+pick(r, "", "1", "a", "A", ",", "=", " ", "\x00")+text[at:])
		checkFault(t, g, text[:at]+text[at+1:])
	})
	for err, least := range map[api.Errno]int{api.OK: 150, api.ErrRange: 60, api.ErrForm: 1000, api.ErrLong: 60, api.ErrShort: 30, api.ErrOrder: 15, api.ErrName: 15} {
		if errors[err] < least {
			t.Errorf("%v: only %d texts", err, errors[err])
		}
	}
}

// TestP9_1Bytes: bytes at random end in a fault or a query, without a panic.
func TestP9_1Bytes(t *testing.T) {
	g := readTable()
	r := newRandom(913)
	for range 20000 {
		b := make([]byte, r.Intn(12))
		r.Read(b)
		checkFault(t, g, string(b))
		checkFault(t, g, "A within 1"+string(b))
	}
}

// TestP9_1Fresh: results share no memory with each other, and no two lists of one share memory.
func TestP9_1Fresh(t *testing.T) {
	one, f := parse.Parse(fullText)
	_ = append(one.Pattern.Kids, api.Node{Kind: 9})
	_ = append(one.Pattern.Kids[0].Atom.Conds, api.Cond{Op: 9})
	_ = append(one.Pattern.Kids[2].Kids, api.Node{Kind: 9})
	_ = append(one.Pattern.Kids[2].Kids[1].Kids, api.Node{Kind: 9})
	_ = append(one.Having, api.Have{})
	_ = append(one.Emit, api.Agg{})
	check(t, fullText, one, full(), f, api.Fault{})
	one.Pattern.Kids[2].Kids[1].Kids[0], one.Pattern.Kids[2].Kids[0] = api.Node{}, api.Node{}
	one.Pattern.Kids[0].Atom.Conds[0], one.Pattern.Kids[0] = api.Cond{}, api.Node{}
	one.Having[0], one.Emit[0] = api.Have{}, api.Agg{}
	other, f := parse.Parse(fullText)
	check(t, fullText, other, full(), f, api.Fault{})
}

// TestP9_1Deep: parentheses and nodes as deep as texts allow.
func TestP9_1Deep(t *testing.T) {
	levels := (api.MaxQuery - len("A within 1")) / 2
	text := strings.Repeat("(", levels) + "A" + strings.Repeat(")", levels) + " within 1"
	q, f := parse.Parse(text)
	check(t, text, q, api.Query{Pattern: one('A'), Within: 1}, f, api.Fault{})
	_, f = parse.Parse(text[1:])
	check(t, text, nil, nil, f, fault(api.ErrForm, 2*levels-1))
	_, f = parse.Parse("(" + text[:len(text)-len("within 1")])
	check(t, text, nil, nil, f, fault(api.ErrShort, len(text)-len("within 1")+1))
	n, want := strings.Repeat("A|B;(", 66)+"A"+strings.Repeat(")", 66), one('A')
	for range 66 {
		want = alt(one('A'), seq(one('B'), want))
	}
	got, f := parse.Pattern(n)
	check(t, n, got, want, f, api.Fault{})
}

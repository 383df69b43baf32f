package parse_test

import (
	"reflect"
	"strings"
	"testing"

	"partywall/api"
	"partywall/ast"
	"partywall/parse"
)

// checkPart fails unless a pattern or an atom is refused as the definition says, and is nothing then.
func checkPart[X any](t *testing.T, g rules, start, text string, read func(s string) (X, api.Fault)) {
	t.Helper()
	var none X
	got, f := read(text)
	if want := g.fault(start, text); f != want || f != (api.Fault{}) && !reflect.DeepEqual(got, none) {
		t.Fatalf("%s(%q) = %+v, %v, not %v", start, text, got, f, want)
	}
}

// TestP9_2Parts: beginnings of patterns and atoms and other tokens behind them, against the grammar.
func TestP9_2Parts(t *testing.T) {
	g := readTable()
	r := newRandom(920)
	var begun []string
	for _, sample := range samples {
		q, _ := parse.Parse(sample)
		tokens := r.tokensOf(q, 0)
		for i := range tokens {
			begun = append(begun, strings.Join(tokens[:i], " ")+" ", strings.Join(tokens[i:], " "))
		}
	}
	for _, before := range begun {
		checkPart(t, g, "pattern", before, parse.Pattern)
		checkPart(t, g, "atom", before, parse.Atom)
		for _, one := range strange {
			checkPart(t, g, "pattern", before+one, parse.Pattern)
			checkPart(t, g, "atom", before+one, parse.Atom)
		}
	}
	for _, one := range strange {
		for _, other := range strange {
			checkPart(t, g, "pattern", one+" "+other, parse.Pattern)
			checkPart(t, g, "atom", one+" "+other, parse.Atom)
		}
	}
}

// TestP9_2Faults: texts that are more than a pattern or an atom, or less, or something else.
func TestP9_2Faults(t *testing.T) {
	for text, want := range map[string][2]api.Fault{
		"A":                 {},
		" A@{1}[=1]:x ":     {},
		"":                  {fault(api.ErrShort, 0), fault(api.ErrShort, 0)},
		"  ":                {fault(api.ErrShort, 2), fault(api.ErrShort, 2)},
		"A within 1":        {fault(api.ErrForm, 2), fault(api.ErrForm, 2)},
		"A{1,2}":            {{}, fault(api.ErrForm, 1)},
		"A{1,1}":            {{}, fault(api.ErrForm, 1)},
		"(A)":               {{}, fault(api.ErrForm, 0)},
		"not A":             {{}, fault(api.ErrForm, 0)},
		"A;B":               {{}, fault(api.ErrForm, 1)},
		"A|B":               {{}, fault(api.ErrForm, 1)},
		"A B":               {fault(api.ErrForm, 2), fault(api.ErrForm, 2)},
		"A abcdefghi":       {fault(api.ErrName, 2), fault(api.ErrName, 2)},
		"A:abcdefghi":       {fault(api.ErrName, 2), fault(api.ErrName, 2)},
		"A:":                {fault(api.ErrShort, 2), fault(api.ErrShort, 2)},
		"A@{64}":            {fault(api.ErrRange, 3), fault(api.ErrRange, 3)},
		"A@{3,3}":           {fault(api.ErrOrder, 5), fault(api.ErrOrder, 5)},
		"A{100,1}":          {fault(api.ErrRange, 2), fault(api.ErrForm, 1)},
		"A{1":               {fault(api.ErrShort, 3), fault(api.ErrForm, 1)},
		"A[=1":              {fault(api.ErrShort, 4), fault(api.ErrShort, 4)},
		"A)":                {fault(api.ErrForm, 1), fault(api.ErrForm, 1)},
		"A emit count(a)":   {fault(api.ErrForm, 2), fault(api.ErrForm, 2)},
		"A having 07":       {fault(api.ErrForm, 9), fault(api.ErrForm, 9)},
		"a":                 {fault(api.ErrForm, 0), fault(api.ErrForm, 0)},
		"A;" + "B within 1": {fault(api.ErrForm, 4), fault(api.ErrForm, 1)},
	} {
		n, f := parse.Pattern(text)
		if f != want[0] || f != (api.Fault{}) && !reflect.DeepEqual(n, api.Node{}) {
			t.Errorf("Pattern(%q) = %+v, %v, not %v", text, n, f, want[0])
		}
		a, f := parse.Atom(text)
		if f != want[1] || f != (api.Fault{}) && !reflect.DeepEqual(a, api.Atom{}) {
			t.Errorf("Atom(%q) = %+v, %v, not %v", text, a, f, want[1])
		}
	}
}

// TestP9_2Values: patterns and atoms are read as what they were written from.
func TestP9_2Values(t *testing.T) {
	r := newRandom(921)
	long := 0
	for range 20000 {
		w := writer{random: r, odds: pick(r, 0, 3, 9)}
		n := r.node(1 + r.Intn(4))
		w.node(n, 0)
		text := r.spaced(w.tokens)
		if len(text) > api.MaxQuery {
			long++
			continue
		}
		got, f := parse.Pattern(text)
		check(t, text, got, n, f, api.Fault{})
		w = writer{random: r}
		a := r.atom()
		w.atom(a)
		text = r.spaced(w.tokens)
		atom, f := parse.Atom(text)
		check(t, text, atom, a, f, api.Fault{})
	}
	if long > 5000 {
		t.Errorf("%d patterns are too long", long)
	}
}

// TestP9_2Again: the text that ast prints for the query of a text, or the fault of Parse, or ErrLong.
func TestP9_2Again(t *testing.T) {
	for text, want := range map[string]string{
		"A within 5":          "A within 5",
		" ( (A) ) within 5\n": "A within 5",
		"A{1,1}within 1":      "A within 1",
		"A{01,1}":             "",
		"((A;B);C)within 7":   "(A ; B) ; C within 7",
		"(A;B)|(C|D)within 7": "A ; B | (C | D) within 7",
		fullText:              "A@{1,2}[>3,!=-1]:x{1,3} ; not C ; (D | E ; F) within 0 having sum(x) >=10 emit count(x), last(x)",
		"A within 0 having min(a)<-1and max(b)!=0emit first(c)": "A within 0 having min(a) <-1 and max(b) !=0 emit first(c)",
	} {
		got, f := parse.Again(text)
		if want == "" {
			_, refused := parse.Parse(text)
			check(t, text, got, "", f, refused)
			continue
		}
		check(t, text, got, want, f, api.Fault{})
	}
	for text, want := range map[string]api.Fault{
		"(A) within 05": fault(api.ErrForm, 11), "": fault(api.ErrShort, 0), "A within": fault(api.ErrShort, 8), "A{1,100}": fault(api.ErrRange, 4), "A@{1,1}": fault(api.ErrOrder, 5), "abcdefghi": fault(api.ErrName, 0), "A B": fault(api.ErrForm, 2), strings.Repeat(" ", 401): fault(api.ErrLong, 400),
	} {
		got, f := parse.Again(text)
		check(t, text, got, "", f, want)
	}
}

// TestP9_2AgainLong: a text that is short enough, but not so what is printed; and one that is just short enough.
func TestP9_2AgainLong(t *testing.T) {
	for letters := 90; letters <= 110; letters++ {
		for _, within := range []string{" within 1", " within 10", " within 100", " within 1000"} {
			text := "A" + strings.Repeat(";A", letters-1) + within
			printed := strings.ReplaceAll(text, ";", " ; ")
			got, f := parse.Again(text)
			if len(printed) <= 400 {
				check(t, text, got, printed, f, api.Fault{})
			} else {
				check(t, text, got, "", f, fault(api.ErrLong, 400))
			}
			if !parse.Is(text) {
				t.Errorf("Is(%q) = false", text)
			}
		}
	}
}

// TestP9_2Is: Is says whether Parse has no fault; Again has a text then, unless it is too long.
func TestP9_2Is(t *testing.T) {
	yes, no := 0, 0
	many(922, 5000, func(r random, _ api.Query, tokens []string, text string) {
		for _, s := range []string{text, r.spaced(r.changed(tokens)), text[:r.Intn(len(text)+1)]} {
			q, f := parse.Parse(s)
			if is := parse.Is(s); is != (f == api.Fault{}) {
				t.Fatalf("Is(%q) = %v, %v", s, is, f)
			}
			again, refused := parse.Again(s)
			if f != (api.Fault{}) {
				check(t, s, again, "", refused, f)
				no++
				continue
			}
			yes++
			if want, e := ast.Print(q); e == api.OK {
				check(t, s, again, want, refused, api.Fault{})
			} else {
				check(t, s, again, "", refused, fault(api.ErrLong, 400))
			}
		}
	})
	if yes < 1000 || no < 1000 {
		t.Errorf("only %d texts of queries, and %d others", yes, no)
	}
}

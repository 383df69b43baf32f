package parse_test

import (
	"slices"
	"strings"
	"testing"

	"partywall/api"
	"partywall/ast"
	"partywall/parse"
	"partywall/token"
)

// TestP9_3Text: a query is parsed from the text that ast prints, and from other texts of it.
func TestP9_3Text(t *testing.T) {
	printed := 0
	calls := many(930, 15000, func(_ random, q api.Query, _ []string, text string) {
		got, f := parse.Parse(text)
		check(t, text, got, q, f, api.Fault{})
		s, e := ast.Print(q)
		if e == api.ErrLong {
			return
		}
		printed++
		got, f = parse.Parse(s)
		check(t, s, got, q, f, api.Fault{})
		if !ast.Same(got, q) || e != api.OK {
			t.Fatalf("%q, %v: %+v, not %+v", s, e, got, q)
		}
		pattern, _ := ast.Pattern(q.Pattern)
		n, f := parse.Pattern(pattern)
		check(t, pattern, n, q.Pattern, f, api.Fault{})
	})
	if calls < 8000 || printed < 8000 {
		t.Errorf("only %d texts, %d of them printed", calls, printed)
	}
}

// TestP9_3Sound: what is parsed is sound, also what changes at random have left.
func TestP9_3Sound(t *testing.T) {
	count := 0
	many(931, 12000, func(r random, _ api.Query, tokens []string, text string) {
		for _, s := range []string{text, r.spaced(r.changed(tokens))} {
			if q, f := parse.Parse(s); f == (api.Fault{}) {
				count++
				if e := ast.Check(q); e != api.OK {
					t.Fatalf("%q is %+v: %v", s, q, e)
				}
			}
		}
	})
	deepest := strings.Repeat("A|A;(", 66) + "A" + strings.Repeat(")", 66)
	n, f := parse.Pattern(deepest)
	if depth, e := ast.Depth(n); depth != 133 || e != api.OK || f != (api.Fault{}) {
		t.Errorf("%q: %d levels, %v, %v", deepest, depth, e, f)
	}
	if count < 6000 {
		t.Errorf("only %d texts", count)
	}
}

// TestP9_4Again: what Again returns is parsed as the same query, and Again of it is the same.
func TestP9_4Again(t *testing.T) {
	count := 0
	many(940, 12000, func(_ random, q api.Query, _ []string, text string) {
		again, f := parse.Again(text)
		if f == fault(api.ErrLong, 400) {
			return
		}
		count++
		got, refused := parse.Parse(again)
		check(t, again, got, q, refused, f)
		twice, f := parse.Again(again)
		check(t, again, twice, again, f, api.Fault{})
	})
	if count < 6000 {
		t.Errorf("only %d texts", count)
	}
}

// TestP9_5Blanks: more blanks between tokens, before and behind them change nothing; in a text with a fault, they change its offset alone.
func TestP9_5Blanks(t *testing.T) {
	many(950, 8000, func(r random, q api.Query, tokens []string, text string) {
		for range 2 {
			if more := r.spaced(tokens); len(more) <= api.MaxQuery {
				got, f := parse.Parse(more)
				check(t, more, got, q, f, api.Fault{})
			}
		}
		changed := r.changed(tokens)
		one, other := r.spaced(changed), r.spaced(changed)
		if len(one) > api.MaxQuery || len(other) > api.MaxQuery {
			return
		}
		_, f := parse.Parse(one)
		_, g := parse.Parse(other)
		if f.Err != g.Err || f.Err != api.OK && place(one, f) != place(other, g) {
			t.Fatalf("Parse(%q): %v; Parse(%q): %v", one, f, other, g)
		}
	})
}

// place returns how many tokens a text has before its fault.
func place(text string, f api.Fault) int {
	l, _ := token.Tokens(text[:f.At])
	return len(l)
}

// TestP9_5Parentheses: a pattern in parentheses, as a whole or as an item, is the same one.
func TestP9_5Parentheses(t *testing.T) {
	count := 0
	many(951, 10000, func(r random, q api.Query, _ []string, _ string) {
		w := writer{random: r}
		w.node(q.Pattern, 0)
		text := "(" + strings.Join(w.tokens, " ") + ")"
		tail := strings.Join(r.tokensOf(api.Query{Pattern: one('A'), Within: q.Within, Having: q.Having, Emit: q.Emit}, 0)[1:], " ")
		for range 3 {
			if len(text+tail) <= api.MaxQuery {
				count++
				got, f := parse.Parse(text + tail)
				check(t, text+tail, got, q, f, api.Fault{})
			}
			text = " ( " + text + " ) "
		}
		if text = "A|B;" + text; len(text) <= api.MaxQuery {
			n, f := parse.Pattern(text)
			check(t, text, n, alt(one('A'), seq(one('B'), q.Pattern)), f, api.Fault{})
		}
	})
	if count < 10000 {
		t.Errorf("only %d texts", count)
	}
}

// TestP9_6Cut: a text that is cut off within its last token, or before it, is refused, or is another query with the same beginning.
func TestP9_6Cut(t *testing.T) {
	refused, others := 0, 0
	many(960, 3000, func(_ random, q api.Query, _ []string, text string) {
		whole, f := parse.Again(text)
		if f != (api.Fault{}) {
			return
		}
		for at := range strings.TrimRight(text, " \t\n\r") {
			cut, f := parse.Parse(text[:at])
			if f != (api.Fault{}) {
				refused++
				continue
			}
			others++
			beginning, f := parse.Again(text[:at])
			if ast.Same(cut, q) || !strings.HasPrefix(whole, beginning) || f != (api.Fault{}) {
				t.Fatalf("%q is %q, cut off at %d %q, %v", text, whole, at, beginning, f)
			}
		}
	})
	if refused < 10000 || others < 1000 {
		t.Errorf("only %d texts are refused, and %d others", refused, others)
	}
}

// TestP9_7Offset: a fault is at a token, or at the length of the text, and ErrShort is there alone.
func TestP9_7Offset(t *testing.T) {
	many(970, 10000, func(r random, _ api.Query, tokens []string, _ string) {
		text := r.spaced(r.changed(tokens))
		l, f := token.Tokens(text)
		_, got := parse.Parse(text)
		if f != (api.Fault{}) || got == (api.Fault{}) {
			check(t, text, nil, nil, got, f)
			return
		}
		isAt := slices.ContainsFunc(l, func(x api.Token) bool { return x.At == got.At })
		if isAt == (got.Err == api.ErrShort) || !isAt && got.At != len(text) {
			t.Fatalf("Parse(%q): %v, tokens %v", text, got, l)
		}
	})
}

// TestP9_7Beginning: the text before a fault is that of a beginning: it is a query, or ends too early, and more tokens make it one.
func TestP9_7Beginning(t *testing.T) {
	g := readTable()
	count := 0
	many(971, 10000, func(r random, _ api.Query, tokens []string, _ string) {
		text := r.spaced(r.changed(tokens))
		_, f := parse.Parse(text)
		if _, none := token.Tokens(text); none != (api.Fault{}) || f == (api.Fault{}) {
			return
		}
		before := text[:f.At]
		if _, f := parse.Parse(before); f != (api.Fault{}) && f != fault(api.ErrShort, len(before)) {
			t.Fatalf("Parse(%q): %v", before, f)
		}
		l, _ := token.Tokens(before)
		ways, _, _ := g.follow("query", l)
		end := g.complete(shortest(ways))
		// No category is greater than 63.
		if len(before)+len(end) >= api.MaxQuery || strings.HasPrefix(end, "63") && len(l) > 1 && l[len(l)-2].Text == "63" {
			return
		}
		count++
		if _, f := parse.Parse(before + " " + end); f != (api.Fault{}) {
			t.Fatalf("Parse(%q): %v", before+" "+end, f)
		}
	})
	if count < 5000 {
		t.Errorf("only %d texts", count)
	}
}

// TestP9_7Same: another text with the same tokens up to a fault has the same one, whatever comes behind it.
func TestP9_7Same(t *testing.T) {
	count := 0
	many(972, 10000, func(r random, _ api.Query, tokens []string, _ string) {
		text := r.spaced(r.changed(tokens))
		l, none := token.Tokens(text)
		_, f := parse.Parse(text)
		at := slices.IndexFunc(l, func(x api.Token) bool { return x.At == f.At })
		if none != (api.Fault{}) || f == (api.Fault{}) || at < 0 {
			return
		}
		upTo := text[:f.At] + l[at].Text
		for _, behind := range []string{"", " " + r.spaced(r.changed(tokens)), " " + pick(r, strange...), " abcdefghi A@{64}", strings.Repeat(" ", 400-len(upTo))} {
			if len(upTo+behind) > api.MaxQuery {
				continue
			}
			count++
			if _, got := parse.Parse(upTo + behind); got != f {
				t.Fatalf("Parse(%q): %v, but Parse(%q): %v", text, f, upTo+behind, got)
			}
		}
	})
	if count < 10000 {
		t.Errorf("only %d texts", count)
	}
}

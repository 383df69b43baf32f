package token_test

import (
	"math"
	"math/big"
	"slices"
	"strings"
	"testing"

	"partywall/api"
	"partywall/token"
)

// check returns what Check returns, by the definitions: the whole text is what the kind's pattern finds in it.
func (p patterns) check(t api.Token) api.Errno {
	switch {
	case t.Kind < 1 || t.Kind > 4:
		return api.ErrKind
	case t.Text == "" || p.kinds[t.Kind].FindString(t.Text) != t.Text || t.Kind == 3 && !p.number.MatchString(t.Text):
		return api.ErrForm
	case t.At < 0:
		return api.ErrRange
	}
	return api.OK
}

// number64 returns what Number returns, by the definitions, with numbers of any size.
func (p patterns) number64(t api.Token, low, high int64) (int64, api.Errno) {
	if e := p.check(t); e != api.OK {
		return 0, e
	}
	if t.Kind != 3 {
		return 0, api.ErrKind
	}
	n, _ := new(big.Int).SetString(t.Text, 10)
	if n.Cmp(big.NewInt(low)) < 0 || n.Cmp(big.NewInt(high)) > 0 {
		return 0, api.ErrRange
	}
	return n.Int64(), api.OK
}

// manyTokens calls yield with tokens of all kinds and none, with and without faults.
func manyTokens(yield func(t api.Token)) {
	texts := []string{"", "é", "within", "Within", "ab1", "a b", " a", "a ", "\na", "AB", "A B", "<=", "< =", "!=", "!", "==", "<=>", "--1", "1-", "-a", "+1", strings.Repeat("a", 1000), strings.Repeat("9", 1000), strings.Repeat("(", 1000)}
	for i := range 256 {
		texts = append(texts, string([]byte{byte(i)}))
	}
	join("", 3, []string{"0", "7", "-", "a", "B", "="}, func(text string) { texts = append(texts, text) })
	for _, text := range texts {
		for _, kind := range []int{math.MinInt, -1, 0, 1, 2, 3, 4, 5, 6, math.MaxInt} {
			for _, at := range []int{math.MinInt, -1, 0, 1, math.MaxInt} {
				yield(tok(kind, text, at))
			}
		}
	}
}

// TestP7_3Check: all tokens against the definitions: ErrKind, ErrForm, ErrRange, in this order.
func TestP7_3Check(t *testing.T) {
	p := definitions()
	manyTokens(func(x api.Token) {
		if got, want := token.Check(x), p.check(x); got != want {
			t.Errorf("Check(%v) = %v, not %v", x, got, want)
		}
	})
}

// TestP7_3NumberErrors: Number returns the error of Check, ErrKind for what is no number, then ErrRange.
func TestP7_3NumberErrors(t *testing.T) {
	p := definitions()
	manyTokens(func(x api.Token) {
		for _, bounds := range [][2]int64{{0, 9}, {math.MinInt64, math.MaxInt64}, {-7, -7}, {9, 0}} {
			want, err := p.number64(x, bounds[0], bounds[1])
			if got, e := token.Number(x, bounds[0], bounds[1]); got != want || e != err {
				t.Errorf("Number(%v, %v) = %d, %v, not %d, %v", x, bounds, got, e, want, err)
			}
		}
	})
}

// TestP7_3NumberBounds: numbers about all bounds that there are, also beyond 64 bits.
func TestP7_3NumberBounds(t *testing.T) {
	p := definitions()
	bounds := []int64{math.MinInt64, math.MinInt64 + 1, -1 << 32, -10, -1, 0, 1, 9, 10, 1 << 32, math.MaxInt64 - 1, math.MaxInt64}
	texts := []string{"99999999999999999999", "-99999999999999999999", "18446744073709551615", "18446744073709551616", "18446744073709551617", "-18446744073709551616", "1" + strings.Repeat("0", 300), "-1" + strings.Repeat("0", 300)}
	for _, b := range bounds {
		for d := int64(-1); d <= 1; d++ {
			texts = append(texts, new(big.Int).Add(big.NewInt(b), big.NewInt(d)).String())
		}
	}
	for _, text := range texts {
		for _, low := range bounds {
			for _, high := range bounds {
				want, err := p.number64(tok(3, text, 5), low, high)
				if got, e := token.Number(tok(3, text, 5), low, high); got != want || e != err {
					t.Errorf("Number(%s, %d, %d) = %d, %v, not %d, %v", text, low, high, got, e, want, err)
				}
			}
		}
	}
}

// TestP7_3Word: the words of the language and no others: not those with a byte more, less, or in upper case.
func TestP7_3Word(t *testing.T) {
	words := strings.Fields("within having and emit not count sum min max first last")
	if len(words) != 11 {
		t.Fatal("the words are not all here")
	}
	for _, w := range words {
		if !token.Word(w) {
			t.Errorf("Word(%s) = false", w)
		}
		for _, s := range []string{w + "s", w + " ", " " + w, "a" + w, w[1:], w[:len(w)-1], strings.ToUpper(w), strings.ToUpper(w[:1]) + w[1:], w + w, w + "\x00"} {
			if got := token.Word(s); got {
				t.Errorf("Word(%q) = true", s)
			}
		}
	}
	for _, s := range []string{"", " ", "x", "abc", "A", "1", "or", "in", "avg", "window", "é", words[0] + " " + words[1], strings.Join(words, "")} {
		if token.Word(s) {
			t.Errorf("Word(%q) = true", s)
		}
	}
}

// TestP7_4Text: the texts with one blank between two of them, or the first error.
func TestP7_4Text(t *testing.T) {
	good := []api.Token{tok(1, "not", 3), tok(2, "A", 0), tok(3, "-5", 0), tok(4, "<", math.MaxInt), tok(4, "=", 0), tok(1, strings.Repeat("a", 1000), 0)}
	bad := []api.Token{tok(0, "a", 0), tok(1, "A", 0), tok(2, "A", -1), tok(0, "", -1)}
	errors := []api.Errno{api.ErrKind, api.ErrForm, api.ErrRange, api.ErrKind}
	for from := range good {
		for to := from; to <= len(good); to++ {
			var texts []string
			for _, x := range good[from:to] {
				texts = append(texts, x.Text)
			}
			if got, e := token.Text(good[from:to]); got != strings.Join(texts, " ") || e != api.OK {
				t.Errorf("Text(%v) = %q, %v", good[from:to], got, e)
			}
			for i, one := range bad {
				for _, other := range bad {
					l := append(append(slices.Clone(good[from:to]), one), append(slices.Clone(good[:from]), other)...)
					if got, e := token.Text(l); got != "" || e != errors[i] {
						t.Errorf("Text(%v) = %q, %v, not %v", l, got, e, errors[i])
					}
				}
			}
		}
	}
}

// TestP7_4Same: as many tokens, with the same kinds and texts, in order, wherever they begin; they need not be sound.
func TestP7_4Same(t *testing.T) {
	all := []api.Token{tok(1, "a", 0), tok(1, "a", 5), tok(1, "b", 0), tok(2, "a", 0), tok(2, "A", 0), tok(0, "", -1), tok(0, "", 0), tok(9, "", 0)}
	lists := [][]api.Token{nil, {}}
	for _, x := range all {
		lists = append(lists, []api.Token{x})
		for _, y := range all {
			lists = append(lists, []api.Token{x, y}, []api.Token{x, y, x})
		}
	}
	for _, a := range lists {
		for _, b := range lists {
			want := len(a) == len(b)
			for i := 0; want && i < len(a); i++ {
				want = a[i].Kind == b[i].Kind && a[i].Text == b[i].Text
			}
			if got := token.Same(a, b); got != want {
				t.Errorf("Same(%v, %v) = %v", a, b, got)
			}
		}
	}
}

// TestP7_4Kept: the lists are not changed.
func TestP7_4Kept(t *testing.T) {
	one, other := []api.Token{tok(2, "B", 7), tok(2, "A", 0)}, []api.Token{tok(2, "A", 9), tok(2, "B", 1)}
	if _, e := token.Text(one); e != api.OK || token.Same(one, other) {
		t.Errorf("%v, or %v is the same as %v", e, one, other)
	}
	if !slices.Equal(one, []api.Token{tok(2, "B", 7), tok(2, "A", 0)}) || !slices.Equal(other, []api.Token{tok(2, "A", 9), tok(2, "B", 1)}) {
		t.Errorf("the lists are %v and %v now", one, other)
	}
}

package token_test

import (
	"math"
	"reflect"
	"regexp"
	"slices"
	"strings"
	"testing"

	"partywall/api"
	"partywall/token"
)

// tok returns a token.
func tok(kind int, text string, at int) api.Token { return api.Token{Kind: kind, Text: text, At: at} }

// fault returns a fault.
func fault(e api.Errno, at int) api.Fault { return api.Fault{Err: e, At: at} }

// patterns are the chapter's definitions, written as regular expressions: blanks, the tokens by their kinds, and numbers as they must be written.
type patterns struct {
	blanks *regexp.Regexp
	kinds  [5]*regexp.Regexp
	number *regexp.Regexp
}

// definitions returns the patterns.
func definitions() patterns {
	return patterns{
		blanks: regexp.MustCompile(`^[\x09\x0a\x0d\x20]*`),
		kinds: [5]*regexp.Regexp{
			1: regexp.MustCompile(`^[a-z]+`),
			2: regexp.MustCompile(`^[A-Z]`),
			3: regexp.MustCompile(`^-?[0-9]+`),
			4: regexp.MustCompile(`^(!=|<=|>=|[;|{},()\[\]@:=<>])`),
		},
		number: regexp.MustCompile(`^(0|-?[1-9][0-9]*)$`),
	}
}

// next returns what Next returns, by the definitions.
func (p patterns) next(text string, at int) (api.Token, int, api.Fault) {
	if at < 0 || at > len(text) {
		return api.Token{}, 0, fault(api.ErrRange, 0)
	}
	at += len(p.blanks.FindString(text[at:]))
	if at == len(text) {
		return api.Token{}, 0, fault(api.ErrShort, at)
	}
	for kind := 1; kind <= 4; kind++ {
		s := p.kinds[kind].FindString(text[at:])
		if s != "" && (kind != 3 || p.number.MatchString(s)) {
			return tok(kind, s, at), at + len(s), api.Fault{}
		}
	}
	return api.Token{}, 0, fault(api.ErrForm, at)
}

// tokens returns what Tokens returns, by the definitions.
func (p patterns) tokens(text string) ([]api.Token, api.Fault) {
	if len(text) > 400 {
		return nil, fault(api.ErrLong, 400)
	}
	var l []api.Token
	for at := 0; ; {
		t, next, f := p.next(text, at)
		if f.Err == api.ErrShort {
			return l, api.Fault{}
		}
		if f.Err != api.OK {
			return nil, f
		}
		l, at = append(l, t), next
	}
}

// parts are what short texts are made of: of each kind of byte one, and what belongs together.
func parts() []string {
	return []string{"a", "B", "0", "7", "-", " ", "<", "=", "!", ";", "\x00"}
}

// join calls yield with all texts of up to most of these parts, and of the parts before.
func join(before string, most int, parts []string, yield func(text string)) {
	yield(before)
	if most == 0 {
		return
	}
	for _, part := range parts {
		join(before+part, most-1, parts, yield)
	}
}

// checkNext holds Next against the definitions.
func checkNext(t *testing.T, p patterns, text string, at int) {
	t.Helper()
	want, behind, f := p.next(text, at)
	if got, next, fault := token.Next(text, at); got != want || next != behind || fault != f {
		t.Fatalf("Next(%q, %d) = %v, %d, %v, not %v, %d, %v", text, at, got, next, fault, want, behind, f)
	}
}

// checkTokens holds Tokens against the definitions.
func checkTokens(t *testing.T, p patterns, text string) {
	t.Helper()
	want, f := p.tokens(text)
	if got, fault := token.Tokens(text); !slices.Equal(got, want) || fault != f {
		t.Fatalf("Tokens(%q) = %v, %v, not %v, %v", text, got, fault, want, f)
	}
}

// TestP7_1All: all short texts, from each offset on, and from some outside of them.
func TestP7_1All(t *testing.T) {
	p := definitions()
	join("", 4, parts(), func(text string) {
		for at := -1; at <= len(text)+1; at++ {
			checkNext(t, p, text, at)
		}
	})
}

// TestP7_1Bytes: each byte alone, between others, and behind the beginning of what it may go on with.
func TestP7_1Bytes(t *testing.T) {
	p := definitions()
	for i := range 256 {
		b := string([]byte{byte(i)})
		for _, text := range []string{b, " " + b, b + "a", "a" + b, "B" + b + "C", "1" + b + "2", "-" + b, "-1" + b, b + "=", "<" + b, "!" + b, "=" + b, b + b, "\t\n\r " + b + " "} {
			for at := range len(text) + 1 {
				checkNext(t, p, text, at)
			}
		}
	}
}

// TestP7_1Offsets: ErrRange for offsets outside of the text, however far; the text need not be short.
func TestP7_1Offsets(t *testing.T) {
	p := definitions()
	long := strings.Repeat(" ", 5000) + strings.Repeat("a", 5000) + strings.Repeat("9", 5000) + "-0"
	for _, text := range []string{"", "A", "  ", "A B", "!", long} {
		for _, at := range []int{math.MinInt, -2, -1, 0, 1, 2, 3, 4, 4999, 5000, 7000, 10000, 14999, 15000, 15001, 15002, 15003, math.MaxInt} {
			checkNext(t, p, text, at)
		}
	}
}

// TestP7_1Signs: each sign, and the longest one that there is.
func TestP7_1Signs(t *testing.T) {
	for _, s := range strings.Fields("; | { } , ( ) [ ] @ : = != < <= > >=") {
		for _, behind := range []string{"", "A", "<", "!=", " =", "\xff"} {
			got, next, f := token.Next(s+behind, 0)
			if got != tok(api.TokSign, s, 0) || next != len(s) || f != (api.Fault{}) {
				t.Errorf("Next(%q, 0) = %v, %d, %v", s+behind, got, next, f)
			}
		}
	}
	for text, want := range map[string]string{"<==": "<=", ">==": ">=", "!==": "!=", "==": "=", "=<": "=", "=!": "=", "<>": "<", "><": ">", "||": "|", "<!=": "<"} {
		if got, next, f := token.Next(text, 0); got != tok(api.TokSign, want, 0) || next != len(want) || f != (api.Fault{}) {
			t.Errorf("Next(%q, 0) = %v, %d, %v", text, got, next, f)
		}
	}
}

// TestP7_2All: all short texts, and those of longer parts.
func TestP7_2All(t *testing.T) {
	p := definitions()
	join("", 5, parts(), func(text string) { checkTokens(t, p, text) })
	join("", 5, []string{"within", "A", "10", "-5", "<", "=", "\t\r\n ", "00", "é"}, func(text string) { checkTokens(t, p, text) })
}

// TestP7_2Long: ErrLong at 400 for more than 400 bytes, before any other fault; 400 are not too long.
func TestP7_2Long(t *testing.T) {
	p := definitions()
	for _, part := range []string{"A", "a", "7", " ", "=", "!", "<=", "A ", "é", "\x00"} {
		for n := 398; n <= 403; n++ {
			text := strings.Repeat(part, n)[:n]
			checkTokens(t, p, text)
			if _, f := token.Tokens(text); n > 400 && f != fault(api.ErrLong, 400) {
				t.Errorf("%d bytes of %q: %v", n, part, f)
			}
		}
	}
	text := strings.Repeat("A", 400)
	if l, f := token.Tokens(text); len(l) != 400 || f != (api.Fault{}) {
		t.Errorf("400 letters: %d tokens, %v", len(l), f)
	}
	checkTokens(t, p, strings.Repeat("A", 399)+"!")
	if l, f := token.Tokens(strings.Repeat("A", 1<<20)); len(l) != 0 || f != fault(api.ErrLong, 400) {
		t.Errorf("a very long text: %d tokens, %v", len(l), f)
	}
}

// TestP7_2First: the first fault, with no tokens, whatever comes behind it.
func TestP7_2First(t *testing.T) {
	for text, at := range map[string]int{"!": 0, "A !": 2, "A\n!B 07": 2, "07 !": 0, "a1-": 2, "A - 1": 2, "-0": 0, "-07": 0, "00": 0, "A--1": 1, "1-": 1, "B_": 1, "a\x80": 1, "A\v": 1, "A\f": 1, "A\u00a0": 1, "\"A\"": 0} {
		if l, f := token.Tokens(text); len(l) != 0 || f != fault(api.ErrForm, at) {
			t.Errorf("Tokens(%q) = %v, %v", text, l, f)
		}
	}
}

// TestP7_2Fresh: two results share no memory, and no tokens are no fault.
func TestP7_2Fresh(t *testing.T) {
	one, _ := token.Tokens("A;B")
	one[0] = tok(9, "x", 9)
	_ = append(one[:1], one[2])
	if other, f := token.Tokens("A;B"); !reflect.DeepEqual(other, []api.Token{tok(2, "A", 0), tok(4, ";", 1), tok(2, "B", 2)}) || f != (api.Fault{}) {
		t.Errorf("Tokens = %v, %v", other, f)
	}
	for _, text := range []string{"", " ", "\t\n\r ", strings.Repeat(" ", 400)} {
		if l, f := token.Tokens(text); len(l) != 0 || f != (api.Fault{}) {
			t.Errorf("Tokens(%q) = %v, %v", text, l, f)
		}
	}
}

package token_test

import (
	"slices"
	"strings"
	"testing"

	"partywall/api"
	"partywall/token"
)

// sound are tokens of all kinds, among them some that are others' beginnings.
func sound() []api.Token {
	l := []api.Token{tok(1, "a", 0), tok(1, "ab", 0), tok(1, "within", 0), tok(2, "A", 0), tok(2, "Z", 0), tok(3, "0", 0), tok(3, "7", 0), tok(3, "10", 0), tok(3, "-5", 0)}
	for _, s := range strings.Fields("; | { } , ( ) [ ] @ : = != < <= > >=") {
		l = append(l, tok(4, s, 0))
	}
	return l
}

// readable calls yield with many texts that are tokens, and these.
func readable(most int, yield func(text string, l []api.Token)) {
	join("", most, []string{"a", "B", "0", "7", "-3", " ", "\t\r\n", "<", "=", "!=", ";", "!"}, func(text string) {
		if l, f := token.Tokens(text); f == (api.Fault{}) {
			yield(text, l)
		}
	})
}

// TestP7_5Read: Tokens of Text are the same tokens.
func TestP7_5Read(t *testing.T) {
	all := sound()
	for i, x := range all {
		for _, y := range all {
			for _, l := range [][]api.Token{{x}, {x, y}, {y, x, y}, {x, all[(i*7+3)%len(all)], y, x}} {
				text, e := token.Text(l)
				if got, f := token.Tokens(text); !token.Same(got, l) || len(got) != len(l) || e != api.OK || f != (api.Fault{}) {
					t.Fatalf("%v, as %q, %v, is read as %v, %v", l, text, e, got, f)
				}
			}
		}
	}
	text, e := token.Text(all)
	if got, f := token.Tokens(text); !token.Same(got, all) || e != api.OK || f != (api.Fault{}) {
		t.Fatalf("%q, %v, is read as %v, %v", text, e, got, f)
	}
}

// TestP7_5Again: the text of tokens has the same tokens as what they were read from.
func TestP7_5Again(t *testing.T) {
	count := 0
	readable(5, func(text string, l []api.Token) {
		written, e := token.Text(l)
		if again, f := token.Tokens(written); e != api.OK || f != (api.Fault{}) || !token.Same(again, l) {
			t.Fatalf("%q is read as %v, written as %q, %v, and read as %v, %v", text, l, written, e, again, f)
		}
		count += len(l)
	})
	if count < 100000 {
		t.Errorf("only %d tokens", count)
	}
}

// TestP7_6Where: each token stands where it says, and is sound; what is between tokens, and at both ends, is blanks.
func TestP7_6Where(t *testing.T) {
	count := 0
	readable(5, func(text string, l []api.Token) {
		at := 0
		for _, x := range l {
			if x.At < at || strings.Trim(text[at:x.At], "\t\n\r ") != "" || !strings.HasPrefix(text[x.At:], x.Text) || token.Check(x) != api.OK {
				t.Fatalf("%q: %v", text, l)
			}
			at = x.At + len(x.Text)
			count++
		}
		if strings.Trim(text[at:], "\t\n\r ") != "" {
			t.Fatalf("%q goes on behind %v", text, l)
		}
	})
	if count < 100000 {
		t.Errorf("only %d tokens", count)
	}
}

// TestP7_7Blanks: more blanks between tokens, before and behind them change At alone.
func TestP7_7Blanks(t *testing.T) {
	blanks := []string{"", " ", "\t", "\n", "\r", " \r\n\t ", "  "}
	readable(4, func(text string, l []api.Token) {
		for i := range blanks {
			more, from := blanks[i], 0
			want := slices.Clone(l)
			for j, x := range l {
				more += text[from:x.At]
				want[j].At = len(more)
				more += x.Text + blanks[(i+j+1)%len(blanks)]
				from = x.At + len(x.Text)
			}
			more += text[from:]
			if got, f := token.Tokens(more); !slices.Equal(got, want) || !token.Same(got, l) || f != (api.Fault{}) {
				t.Fatalf("%q with more blanks is %q: %v, %v, not %v", text, more, got, f, want)
			}
		}
	})
}

// TestP7_8Two: the tokens of two texts with a blank between them are those of both.
func TestP7_8Two(t *testing.T) {
	var texts []string
	readable(3, func(text string, l []api.Token) { texts = append(texts, text) })
	for i, one := range texts {
		for j := range 40 {
			other := texts[(i*31+j*j)%len(texts)]
			want, _ := token.Tokens(one)
			behind, _ := token.Tokens(other)
			for _, x := range behind {
				x.At += len(one) + 1
				want = append(want, x)
			}
			for _, blank := range []string{" ", "\t", "\n", "\r"} {
				if got, f := token.Tokens(one + blank + other); !slices.Equal(got, want) || f != (api.Fault{}) {
					t.Fatalf("%q and %q: %v, %v, not %v", one, other, got, f, want)
				}
			}
		}
	}
}

package row_test

import (
	"math"
	"slices"
	"strconv"
	"strings"
	"testing"

	"partywall/api"
	"partywall/row"
)

// words are words that can be written.
func words() []api.Word {
	l := []api.Word{bare("a", 0), bare("-5", 0), bare("a#", 0), bare("~!", 0), quoted("", 0), quoted(" ", 0), quoted("#", 0), quoted(`a"\b`, 0), quoted("a\n\x00\xff", 0), quoted("bare", 0), quoted(`\x41`, 0), quoted("é", 0)}
	return l
}

// lists are rows of up to three words, among them all pairs.
func lists() []api.Row {
	var l []api.Row
	for _, a := range words() {
		l = append(l, rowOf(0, a))
		for _, b := range words() {
			l = append(l, rowOf(0, a, b), rowOf(0, a, b, a))
		}
	}
	return l
}

// plain returns the rows without their offsets.
func plain(rows []api.Row) []api.Row {
	var l []api.Row
	for _, r := range rows {
		l = append(l, moved(r, -r.At, true))
	}
	return l
}

// moved returns the row n bytes further on; without offsets in it if bare.
func moved(r api.Row, n int, none bool) api.Row {
	m := api.Row{At: r.At + n, Words: slices.Clone(r.Words)}
	for i := range m.Words {
		m.Words[i].At += n
		if none {
			m.Words[i].At = 0
		}
	}
	return m
}

// TestP6_5Read: rows are read from their text.
func TestP6_5Read(t *testing.T) {
	l := lists()
	for i := range l {
		rows := l[i:min(i+3, len(l))]
		text, e := row.Text(rows)
		if e != api.OK {
			t.Fatalf("%v: %v", rows, e)
		}
		if got, f := row.Rows(text); !sameRows(plain(got), rows) || f != (api.Fault{}) {
			t.Fatalf("%v, as %q, is read as %v, %v", rows, text, got, f)
		}
	}
}

// readable calls yield with many short texts that have rows.
func readable(yield func(text string, rows []api.Row)) {
	join("", 5, []string{"a", " ", "\t", "\n", "#", `"`, `"\x0A"`, `\"`, " é"}, func(text string) {
		if rows, f := row.Rows(text); f == (api.Fault{}) {
			yield(text, rows)
		}
	})
}

// TestP6_6Again: the text of what is read is read as the same.
func TestP6_6Again(t *testing.T) {
	count := 0
	readable(func(text string, rows []api.Row) {
		written, e := row.Text(rows)
		if again, f := row.Rows(written); e != api.OK || f != (api.Fault{}) || !sameRows(plain(again), plain(rows)) {
			t.Fatalf("%q is read as %v, written as %q, %v, and read as %v, %v", text, rows, written, e, again, f)
		}
		count += len(rows)
	})
	if count < 5000 {
		t.Errorf("only %d rows", count)
	}
}

// TestP6_7Blanks: remarks, empty lines and more blanks change nothing but offsets.
func TestP6_7Blanks(t *testing.T) {
	l := lists()
	for i, r := range l {
		rows := []api.Row{r, l[(i*7+3)%len(l)]}
		text := ""
		for _, r := range rows {
			text += "\n# \" \\ \xff\n \t"
			for _, w := range r.Words {
				word, _ := row.Word(w)
				text += "\t " + word + " \t  "
			}
			text += "# a \"b\" #\n\n \n"
		}
		if got, f := row.Rows(text); !sameRows(plain(got), rows) || f != (api.Fault{}) {
			t.Fatalf("%q: %v, %v", text, got, f)
		}
	}
}

// TestP6_8Two: the rows of two texts are those of the one, and then those of the other.
func TestP6_8Two(t *testing.T) {
	texts := []string{""}
	readable(func(text string, rows []api.Row) {
		if len(texts)*len(texts) < 40000 && len(text) > 2 {
			texts = append(texts, text)
		}
	})
	for i, one := range texts {
		for _, other := range texts[i/2 : min(i/2+60, len(texts))] {
			one := one + "\n"
			want, _ := row.Rows(one)
			behind, _ := row.Rows(other)
			for _, r := range behind {
				want = append(want, moved(r, len(one), false))
			}
			if got, f := row.Rows(one + other); !sameRows(got, want) || f != (api.Fault{}) {
				t.Fatalf("%q and %q: %v, %v", one, other, got, f)
			}
		}
	}
}

// TestP6_9Strings: each string has a quoted word, which is read as this string.
func TestP6_9Strings(t *testing.T) {
	parts := []string{}
	for _, b := range []byte{0, 9, 10, 13, 31, 32, 33, '"', '#', '0', '\\', 'x', 126, 127, 128, 255} {
		parts = append(parts, string([]byte{b}))
	}
	all := strings.Builder{}
	for i := range 200 {
		all.WriteByte(byte(i + 56))
	}
	check := func(s string) {
		word, e := row.Word(quoted(s, 0))
		rows, f := row.Rows(word)
		if e != api.OK || f != (api.Fault{}) || !sameRows(rows, []api.Row{rowOf(0, quoted(s, 0))}) {
			t.Fatalf("%q: %s, %v, read as %v, %v", s, word, e, rows, f)
		}
	}
	join("", 4, parts, check)
	check(all.String())
}

// TestP6_9Numbers: each number is read from its digits.
func TestP6_9Numbers(t *testing.T) {
	for i := range 65 {
		for _, n := range []uint64{1<<i - 1, 1 << i, 1<<i + 1, math.MaxUint64 / uint64(i+1)} {
			digits := strconv.FormatUint(n, 10)
			rows, _ := row.Rows(digits)
			if len(rows) != 1 || len(rows[0].Words) != 1 {
				t.Fatalf("%s is no word", digits)
			}
			if got, e := row.Number(rows[0].Words[0], n, n); got != n || e != api.OK {
				t.Errorf("Number(%s) = %d, %v", digits, got, e)
			}
			rows, _ = row.Rows(strconv.FormatInt(int64(n), 10))
			if got, e := row.Signed(rows[0].Words[0]); got != int64(n) || e != api.OK {
				t.Errorf("Signed(%d) = %d, %v", int64(n), got, e)
			}
		}
	}
}

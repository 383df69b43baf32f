package row_test

import (
	"reflect"
	"regexp"
	"slices"
	"strings"
	"testing"

	"partywall/api"
	"partywall/row"
)

// bare returns a word that is not Quoted.
func bare(text string, at int) api.Word { return api.Word{Text: text, At: at} }

// quoted returns a word that is Quoted.
func quoted(text string, at int) api.Word { return api.Word{Quoted: true, Text: text, At: at} }

// rowOf returns a row.
func rowOf(at int, words ...api.Word) api.Row { return api.Row{At: at, Words: words} }

// sameRows says whether two lists have the same rows: no rows are as good as nil.
func sameRows(a, b []api.Row) bool {
	return slices.EqualFunc(a, b, func(x, y api.Row) bool { return x.At == y.At && slices.Equal(x.Words, y.Words) })
}

// patterns say what a line may begin with: they are the chapter's definitions, written as regular expressions.
type patterns struct{ blanks, bare, quoted *regexp.Regexp }

// definitions returns the patterns.
func definitions() patterns {
	return patterns{
		regexp.MustCompile(`^[ \t]+`),
		regexp.MustCompile(`^[!$-\[\]-~][!#-\[\]-~]*([ \t]|$)`),
		regexp.MustCompile(`^"([ !#-\[\]-~]|\\"|\\\\|\\x[0-9a-fA-F]{2})*"([ \t]|$)`),
	}
}

// meant returns what stands for the inner part of a quoted word.
func meant(inner string) string {
	var b strings.Builder
	for i := 0; i < len(inner); i++ {
		switch {
		case inner[i] != '\\':
			b.WriteByte(inner[i])
		case inner[i+1] != 'x':
			i++
			b.WriteByte(inner[i])
		default:
			two := strings.ToLower(inner[i+2 : i+4])
			b.WriteByte(byte(strings.IndexByte("0123456789abcdef", two[0])*16 + strings.IndexByte("0123456789abcdef", two[1])))
			i += 3
		}
	}
	return b.String()
}

// rowsOf returns the rows of a text by the definitions.
func rowsOf(p patterns, text string) ([]api.Row, api.Fault) {
	if len(text) > 20000 {
		return nil, api.Fault{Err: api.ErrLong, At: 20000}
	}
	var rows []api.Row
	at := 0
	for _, line := range strings.Split(text, "\n") {
		if len(line) > 1000 {
			return nil, api.Fault{Err: api.ErrLong, At: at}
		}
		words := []api.Word{}
		rest := line
		for {
			rest = rest[len(p.blanks.FindString(rest)):]
			if rest == "" || rest[0] == '#' {
				break
			}
			from := at + len(line) - len(rest)
			word := p.bare.FindString(rest)
			if word != "" {
				words = append(words, bare(strings.TrimRight(word, " \t"), from))
			} else if word = p.quoted.FindString(rest); word != "" {
				inner := strings.TrimRight(word, " \t")
				words = append(words, quoted(meant(inner[1:len(inner)-1]), from))
			} else {
				return nil, api.Fault{Err: api.ErrForm, At: from}
			}
			rest = rest[len(word):]
		}
		if len(words) > 0 {
			rows = append(rows, rowOf(at, words...))
		}
		at += len(line) + 1
	}
	return rows, api.Fault{}
}

// checkRows holds Rows of a text against the definitions.
func checkRows(t *testing.T, p patterns, text string) {
	t.Helper()
	want, f := rowsOf(p, text)
	if got, fault := row.Rows(text); !sameRows(got, want) || fault != f {
		t.Fatalf("Rows(%q) = %v, %v, not %v, %v", text, got, fault, want, f)
	}
}

// join calls yield with all texts of up to most of these parts, and of the parts before.
func join(before string, most int, parts []string, yield func(text string)) {
	yield(before)
	if most == 0 {
		return
	}
	for _, part := range parts {
		join(before+part, most-1, parts, yield)
	}
}

// TestP6_1All: all short texts of bytes that mean something, and of some that do not.
func TestP6_1All(t *testing.T) {
	p := definitions()
	join("", 5, []string{"a", " ", "\t", "\n", "#", `"`, `\`, "x", "4", "é"}, func(text string) { checkRows(t, p, text) })
	join("", 4, []string{`"`, `\"`, `\\`, `\x`, "0", "F", "e", "g", " ", "#", "\n", "\r"}, func(text string) { checkRows(t, p, text) })
}

// TestP6_1Bytes: each byte in a bare word, at its beginning, in a quoted word, behind one, behind a backslash, as a digit, and in a remark.
func TestP6_1Bytes(t *testing.T) {
	p := definitions()
	for i := range 256 {
		b := string([]byte{byte(i)})
		for _, text := range []string{b, "a" + b, "a" + b + "c", b + "c", "a " + b + "c d", `"` + b + `"`, `"a` + b + `c" d`, `"a"` + b, `"a"` + b + `c`, `"\` + b + `"`, `"\x` + b + `0"`, `"\x4` + b + `"`, `"\x4` + b, "#" + b, "a # " + b + " c", "a #" + b + "c\nd", " " + b + " ", "\t" + b + "\t"} {
			checkRows(t, p, text)
		}
	}
}

// TestP6_1Offsets: rows with the offsets of their lines, words with those at which they begin.
func TestP6_1Offsets(t *testing.T) {
	for _, c := range []struct {
		text string
		want []api.Row
	}{
		{"a", []api.Row{rowOf(0, bare("a", 0))}},
		{"  a", []api.Row{rowOf(0, bare("a", 2))}},
		{"\n\n \t\n a \t b\n", []api.Row{rowOf(5, bare("a", 6), bare("b", 10))}},
		{"#a\n\"\"", []api.Row{rowOf(3, quoted("", 3))}},
		{"a#b #c\n\"#\"", []api.Row{rowOf(0, bare("a#b", 0)), rowOf(7, quoted("#", 7))}},
		{"a\n\nb\nc", []api.Row{rowOf(0, bare("a", 0)), rowOf(3, bare("b", 3)), rowOf(5, bare("c", 5))}},
		{`"\x0A\xfF" "\\x41" ! ~`, []api.Row{rowOf(0, quoted("\n\xff", 0), quoted(`\x41`, 11), bare("!", 19), bare("~", 21))}},
		{"", nil}, {"\n", nil}, {"\n\n", nil}, {" ", nil}, {"\t \t", nil}, {"#", nil}, {"#\xff\x00\"\\", nil}, {" #\n\t# x", nil},
	} {
		if got, f := row.Rows(c.text); !sameRows(got, c.want) || f != (api.Fault{}) {
			t.Errorf("Rows(%q) = %v, %v", c.text, got, f)
		}
	}
}

// TestP6_1Faults: the first fault, line by line: that of a line's length before those of its words.
func TestP6_1Faults(t *testing.T) {
	long := strings.Repeat("a", 1001)
	for _, c := range []struct {
		text string
		f    api.Fault
	}{
		{"a \\", api.Fault{Err: api.ErrForm, At: 2}},
		{"a\n b \"c\"d \\", api.Fault{Err: api.ErrForm, At: 5}},
		{"\"a\"#b", api.Fault{Err: api.ErrForm, At: 0}},
		{"\"a\"\"b\"", api.Fault{Err: api.ErrForm, At: 0}},
		{"\"a\nb\"", api.Fault{Err: api.ErrForm, At: 0}},
		{"\"a\tb\"", api.Fault{Err: api.ErrForm, At: 0}},
		{"a\r\nb", api.Fault{Err: api.ErrForm, At: 0}},
		{"a\n\x00", api.Fault{Err: api.ErrForm, At: 2}},
		{"a \"\\X41\"", api.Fault{Err: api.ErrForm, At: 2}},
		{long, api.Fault{Err: api.ErrLong, At: 0}},
		{long + "\n\\", api.Fault{Err: api.ErrLong, At: 0}},
		{"\\\n" + long, api.Fault{Err: api.ErrForm, At: 0}},
		{"a\n\\" + long, api.Fault{Err: api.ErrLong, At: 2}},
		{"a\n\n#" + long[:1000] + "\nb", api.Fault{Err: api.ErrLong, At: 3}},
		{strings.Repeat(" ", 1001), api.Fault{Err: api.ErrLong, At: 0}},
	} {
		if got, f := row.Rows(c.text); len(got) != 0 || f != c.f {
			t.Errorf("Rows(%.20q) = %v, %v, not %v", c.text, got, f, c.f)
		}
	}
}

// TestP6_1Long: texts of up to 20,000 bytes, and lines of up to 1,000 without their line feeds.
func TestP6_1Long(t *testing.T) {
	line := strings.Repeat("a", 1000)
	text := strings.Repeat(line[:999]+"\n", 20)
	for _, c := range []struct {
		text  string
		count int
		f     api.Fault
	}{
		{line, 1, api.Fault{}}, {line + "\n", 1, api.Fault{}}, {"b\n" + line + "\nb", 3, api.Fault{}}, {line + "\n" + line, 2, api.Fault{}},
		{text, 20, api.Fault{}}, {strings.Repeat("\n", 20000), 0, api.Fault{}},
		{text + "\n", 0, api.Fault{Err: api.ErrLong, At: 20000}}, {text + "a", 0, api.Fault{Err: api.ErrLong, At: 20000}}, {"\\" + text, 0, api.Fault{Err: api.ErrLong, At: 20000}}, {strings.Repeat(line+"a\n", 30), 0, api.Fault{Err: api.ErrLong, At: 20000}},
	} {
		if got, f := row.Rows(c.text); len(got) != c.count || f != c.f {
			t.Errorf("Rows of %d bytes: %d rows, %v, not %v", len(c.text), len(got), f, c.f)
		}
	}
}

// TestP6_3Text: rows with their line feeds, whatever At is.
func TestP6_3Text(t *testing.T) {
	for _, c := range []struct {
		rows []api.Row
		want string
	}{
		{nil, ""}, {[]api.Row{}, ""},
		{[]api.Row{rowOf(0, bare("a", 0))}, "a\n"},
		{[]api.Row{rowOf(7, bare("a", -1), quoted("a", 3), quoted("", 3)), rowOf(-1, quoted("#\n", 0))}, "a \"a\" \"\"\n\"#\\x0a\"\n"},
	} {
		if got, e := row.Text(c.rows); got != c.want || e != api.OK {
			t.Errorf("Text(%v) = %q, %v", c.rows, got, e)
		}
	}
}

// TestP6_3Errors: the first error, row by row: that of a row's words before that of its length.
func TestP6_3Errors(t *testing.T) {
	good, none, wrong := row.Make("a"), rowOf(3), rowOf(0, bare("b", 0), bare("#", 0))
	long := row.Make(strings.Repeat("a", 1001))
	longWrong := rowOf(0, append(slices.Clone(long.Words), bare("", 0))...)
	for _, c := range []struct {
		rows []api.Row
		e    api.Errno
	}{
		{[]api.Row{none}, api.ErrMissing}, {[]api.Row{good, none}, api.ErrMissing}, {[]api.Row{wrong, none}, api.ErrForm}, {[]api.Row{none, wrong}, api.ErrMissing}, {[]api.Row{good, wrong, long}, api.ErrForm},
		{[]api.Row{long}, api.ErrLong}, {[]api.Row{good, long, none}, api.ErrLong}, {[]api.Row{none, long}, api.ErrMissing}, {[]api.Row{longWrong}, api.ErrForm}, {[]api.Row{good, {}}, api.ErrMissing},
	} {
		if got, e := row.Text(c.rows); got != "" || e != c.e {
			t.Errorf("Text(%.80v) = %.20q, %v, not %v", c.rows, got, e, c.e)
		}
	}
}

// TestP6_3Long: rows of up to 1,000 bytes as they are written, texts of up to 20,000 with the line feeds.
func TestP6_3Long(t *testing.T) {
	a := strings.Repeat("a", 1000)
	line := row.Make(a[:999])
	for _, c := range []struct {
		rows []api.Row
		size int
	}{
		{[]api.Row{row.Make(a)}, 1001}, {[]api.Row{row.Make(a + "a")}, 0},
		{[]api.Row{row.Make(a[:500], a[:499])}, 1001}, {[]api.Row{row.Make(a[:500], a[:500])}, 0},
		{[]api.Row{row.Make(a[:997] + " ")}, 1001}, {[]api.Row{row.Make(a[:998] + " ")}, 0},
		{[]api.Row{row.Make(strings.Repeat("\x00", 249))}, 999}, {[]api.Row{row.Make(strings.Repeat("\x00", 250))}, 0},
		{slices.Repeat([]api.Row{line}, 20), 20000}, {append(slices.Repeat([]api.Row{line}, 19), row.Make(a[:998])), 19999}, {append(slices.Repeat([]api.Row{line}, 19), row.Make(a)), 0}, {slices.Repeat([]api.Row{line}, 21), 0},
		{append(slices.Repeat([]api.Row{line}, 20), row.Make("a")), 0}, {append([]api.Row{row.Make("a")}, slices.Repeat([]api.Row{line}, 20)...), 0},
	} {
		got, e := row.Text(c.rows)
		if len(got) != c.size || e != api.OK && c.size != 0 || e != api.ErrLong && c.size == 0 {
			t.Errorf("%d rows, the first with %d words: %d bytes, %v", len(c.rows), len(c.rows[0].Words), len(got), e)
		}
	}
	// What is wrong behind the place at which the text is too long does not matter, what is wrong before it does.
	full := slices.Repeat([]api.Row{line}, 20)
	if _, e := row.Text(append(slices.Clone(full), row.Make("a"), api.Row{})); e != api.ErrLong {
		t.Errorf("a row that is too many before one without words: %v", e)
	}
	if _, e := row.Text(append(slices.Clone(full), api.Row{}, row.Make("a"))); e != api.ErrMissing {
		t.Errorf("a row without words before one that is too many: %v", e)
	}
}

// TestR4: arguments are not changed, and results share no memory with them.
func TestR4(t *testing.T) {
	rows := []api.Row{row.Make("a", "b c"), row.Make("")}
	want := []api.Row{row.Make("a", "b c"), row.Make("")}
	row.Text(rows)
	if !reflect.DeepEqual(rows, want) {
		t.Errorf("the rows are now %v", rows)
	}
	texts := []string{"a", "b c"}
	made := row.Make(texts...)
	made.Words[0].Text = "x"
	row.Which(bare("a", 0), texts...)
	if !slices.Equal(texts, []string{"a", "b c"}) {
		t.Errorf("the texts are now %q", texts)
	}
	one, _ := row.Rows("a b\nc")
	other, _ := row.Rows("a b\nc")
	one[0].Words[0].Text = "x"
	one[0].Words = append(one[0].Words[:1], bare("y", 0))
	if want := []api.Row{rowOf(0, bare("a", 0), bare("b", 2)), rowOf(4, bare("c", 4))}; !sameRows(other, want) || !sameRows(one[1:], want[1:]) {
		t.Errorf("the rows are now %v and %v", other, one)
	}
}

package label_test

import (
	"slices"
	"strconv"
	"strings"
	"testing"

	"partywall/api"
	"partywall/label"
)

func fault(e api.Errno, at int) api.Fault { return api.Fault{Err: e, At: at} }

// TestP1_3Text: the texts of labels, and that they are read, alone and at the beginning of a longer string.
func TestP1_3Text(t *testing.T) {
	for _, c := range []struct {
		l    uint64
		text string
	}{
		{none, "{}"}, {1, "{0}"}, {5, "{0,2}"}, {1<<9 | 1<<10, "{9,10}"}, {high, "{63}"}, {high | 1, "{0,63}"}, {1<<20 | 1<<30 | 1<<60, "{20,30,60}"}, {all, "{" + upTo(63) + "}"},
	} {
		if got := label.Text(c.l); got != c.text {
			t.Errorf("Text(%d) = %q", c.l, got)
		}
		if got, f := label.Parse(c.text); got != c.l || f != (api.Fault{}) {
			t.Errorf("Parse(%q) = %d, %v", c.text, got, f)
		}
		for _, rest := range []string{"", "x", "}", "{", "{}", ",", "0", " ", "\x00", "\n{64}"} {
			if got, used, f := label.Read(c.text + rest); got != c.l || used != len(c.text) || f != (api.Fault{}) {
				t.Errorf("Read(%q) = %d, %d, %v", c.text+rest, got, used, f)
			}
		}
	}
}

// upTo returns the numbers from 0 to n, with commas between them.
func upTo(n int) string {
	var words []string
	for i := range n + 1 {
		words = append(words, strconv.Itoa(i))
	}
	return strings.Join(words, ",")
}

// TestP1_3Faults: each fault with its offset; Read and Parse return the same one, and else zero values.
func TestP1_3Faults(t *testing.T) {
	for _, c := range []struct {
		text string
		want api.Fault
	}{
		// a byte that cannot stand there
		{"0", fault(api.ErrForm, 0)}, {"}", fault(api.ErrForm, 0)}, {" {}", fault(api.ErrForm, 0)}, {"\x00", fault(api.ErrForm, 0)}, {"é{}", fault(api.ErrForm, 0)},
		{"{,}", fault(api.ErrForm, 1)}, {"{ }", fault(api.ErrForm, 1)}, {"{-1}", fault(api.ErrForm, 1)}, {"{+1}", fault(api.ErrForm, 1)}, {"{{}}", fault(api.ErrForm, 1)}, {"{x}", fault(api.ErrForm, 1)}, {"{/}", fault(api.ErrForm, 1)}, {"{:}", fault(api.ErrForm, 1)}, {"{\x00}", fault(api.ErrForm, 1)}, {"{\xff}", fault(api.ErrForm, 1)},
		{"{1 }", fault(api.ErrForm, 2)}, {"{1x}", fault(api.ErrForm, 2)}, {"{1;2}", fault(api.ErrForm, 2)}, {"{1\x00", fault(api.ErrForm, 2)}, {"{1{", fault(api.ErrForm, 2)}, {"{12.}", fault(api.ErrForm, 3)},
		{"{0,}", fault(api.ErrForm, 3)}, {"{1,,2}", fault(api.ErrForm, 3)}, {"{1, 2}", fault(api.ErrForm, 3)}, {"{1,{", fault(api.ErrForm, 3)}, {"{10,2x", fault(api.ErrOrder, 4)},
		// too short
		{"", fault(api.ErrForm, 0)}, {"{", fault(api.ErrForm, 1)}, {"{1", fault(api.ErrForm, 2)}, {"{63", fault(api.ErrForm, 3)}, {"{1,", fault(api.ErrForm, 3)}, {"{1,2", fault(api.ErrForm, 4)},
		// a number with a first digit 0
		{"{00}", fault(api.ErrForm, 2)}, {"{01}", fault(api.ErrForm, 2)}, {"{000}", fault(api.ErrForm, 2)}, {"{1,02}", fault(api.ErrForm, 4)}, {"{00", fault(api.ErrForm, 2)}, {"{064}", fault(api.ErrForm, 2)}, {"{5,00}", fault(api.ErrForm, 4)},
		// a number greater than 63, with all its digits, before the order and before what follows
		{"{64}", fault(api.ErrRange, 1)}, {"{99}", fault(api.ErrRange, 1)}, {"{100}", fault(api.ErrRange, 1)}, {"{630}", fault(api.ErrRange, 1)}, {"{1,640}", fault(api.ErrRange, 3)}, {"{70,1}", fault(api.ErrRange, 1)}, {"{63,64}", fault(api.ErrRange, 4)}, {"{64", fault(api.ErrRange, 1)}, {"{64x}", fault(api.ErrRange, 1)}, {"{64,00}", fault(api.ErrRange, 1)},
		{"{18446744073709551616}", fault(api.ErrRange, 1)}, {"{18446744073709551617}", fault(api.ErrRange, 1)}, {"{3,4294967300}", fault(api.ErrRange, 3)}, {"{1," + strings.Repeat("9", 500) + "}", fault(api.ErrRange, 3)}, {"{1" + strings.Repeat("0", 500) + "}", fault(api.ErrRange, 1)},
		// a number that is not greater than the one before
		{"{2,1}", fault(api.ErrOrder, 3)}, {"{1,1}", fault(api.ErrOrder, 3)}, {"{0,0}", fault(api.ErrOrder, 3)}, {"{63,0}", fault(api.ErrOrder, 4)}, {"{1,2,1}", fault(api.ErrOrder, 5)}, {"{1,3,2,64}", fault(api.ErrOrder, 5)}, {"{2,1", fault(api.ErrOrder, 3)}, {"{63,63}", fault(api.ErrOrder, 4)},
	} {
		if l, f := label.Parse(c.text); l != 0 || f != c.want {
			t.Errorf("Parse(%q) = %d, %v", c.text, l, f)
		}
		if l, used, f := label.Read(c.text); l != 0 || used != 0 || f != c.want {
			t.Errorf("Read(%q) = %d, %d, %v", c.text, l, used, f)
		}
	}
}

// TestP1_3Long: Parse alone refuses what stands behind the text, at its first byte.
func TestP1_3Long(t *testing.T) {
	for _, c := range []struct {
		text string
		at   int
	}{{"{1}x", 3}, {"{}{}", 2}, {"{} ", 2}, {"{0,63}}", 6}, {"{}\x00", 2}, {"{1}1", 3}} {
		if l, f := label.Parse(c.text); l != 0 || f != fault(api.ErrLong, c.at) {
			t.Errorf("Parse(%q) = %d, %v", c.text, l, f)
		}
	}
}

// TestP1_4Bytes: the bytes of labels, big-endian, and ErrForm for each other length.
func TestP1_4Bytes(t *testing.T) {
	for _, c := range []struct {
		l     uint64
		bytes []byte
	}{
		{none, []byte{0, 0, 0, 0, 0, 0, 0, 0}}, {258, []byte{0, 0, 0, 0, 0, 0, 1, 2}}, {high, []byte{128, 0, 0, 0, 0, 0, 0, 0}}, {all, []byte{255, 255, 255, 255, 255, 255, 255, 255}}, {0x0102030405060708, []byte{1, 2, 3, 4, 5, 6, 7, 8}}, {0xfedcba9876543210, []byte{0xfe, 0xdc, 0xba, 0x98, 0x76, 0x54, 0x32, 0x10}},
	} {
		if got := label.Bytes(c.l); got != string(c.bytes) {
			t.Errorf("Bytes(%d) = %q", c.l, got)
		}
		if got, e := label.Of8(string(c.bytes)); got != c.l || e != api.OK {
			t.Errorf("Of8(%q) = %d, %v", c.bytes, got, e)
		}
	}
	for n := range 40 {
		if got, e := label.Of8(strings.Repeat("\xff", n)); n != 8 && (got != 0 || e != api.ErrForm) {
			t.Errorf("Of8 of %d bytes = %d, %v", n, got, e)
		}
	}
}

// TestExamples: the chapter's table, row by row.
func TestExamples(t *testing.T) {
	for i, row := range [][2][]any{
		{results(label.Of(0, 2, 2)), {uint64(5), api.OK}},
		{results(label.Of()), {uint64(0), api.OK}},
		{results(label.Of(64)), {uint64(0), api.ErrRange}},
		{results(label.Of(63)), {high, api.OK}},
		{results(label.Has(5, 2)), {true, api.OK}},
		{results(label.Has(5, 1)), {false, api.OK}},
		{results(label.Has(5, 64)), {false, api.ErrRange}},
		{{slices.Equal(label.List(5), []int{0, 2}), label.Count(5)}, {true, 2}},
		{results(label.Least(12)), {2, api.OK}},
		{results(label.Least(0)), {0, api.ErrRange}},
		{{label.Below(1, 5), label.Below(5, 1), label.Below(0, 0), label.Comparable(1, 2)}, {true, false, true, false}},
		{{label.Join(1, 4), label.Join(), label.Meet(5, 6), label.Meet(), label.Without(7, 2)}, {uint64(5), none, uint64(4), all, uint64(5)}},
		{{label.Text(5), label.Text(0)}, {"{0,2}", "{}"}},
		{results(label.Parse("{0,2}")), {uint64(5), api.Fault{}}},
		{results(label.Parse("{}")), {none, api.Fault{}}},
		{read("{1}x"), {uint64(2), 3, api.Fault{}}},
		{results(label.Parse("0")), {none, fault(api.ErrForm, 0)}},
		{results(label.Parse("{0,}")), {none, fault(api.ErrForm, 3)}},
		{results(label.Parse("{00}")), {none, fault(api.ErrForm, 2)}},
		{results(label.Parse("{64}")), {none, fault(api.ErrRange, 1)}},
		{results(label.Parse("{2,1}")), {none, fault(api.ErrOrder, 3)}},
		{results(label.Parse("{1}x")), {none, fault(api.ErrLong, 3)}},
		{results(label.Parse("{1")), {none, fault(api.ErrForm, 2)}},
		{{label.Bytes(258)}, {"\x00\x00\x00\x00\x00\x00\x01\x02"}},
		{results(label.Of8(label.Bytes(258))), {uint64(258), api.OK}},
		{results(label.Of8("1234567")), {none, api.ErrForm}},
	} {
		if !slices.Equal(row[0], row[1]) {
			t.Errorf("example %d: %v, not %v", i, row[0], row[1])
		}
	}
}

func results[A, B any](a A, b B) []any { return []any{a, b} }

func read(s string) []any {
	l, used, f := label.Read(s)
	return []any{l, used, f}
}

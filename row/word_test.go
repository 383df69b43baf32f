package row_test

import (
	"math"
	"math/big"
	"reflect"
	"strconv"
	"strings"
	"testing"

	"partywall/api"
	"partywall/row"
)

// isBare says whether s is a bare word by the definition.
func isBare(s string) bool {
	for i := range len(s) {
		if s[i] < 33 || s[i] > 126 || s[i] == 34 || s[i] == 92 || i == 0 && s[i] == 35 {
			return false
		}
	}
	return len(s) > 0
}

// TestP6_2Bare: each byte alone, first and later; the empty string is no bare word.
func TestP6_2Bare(t *testing.T) {
	texts := []string{"", "é", "a\xff", strings.Repeat("a", 100000), "a b", " ", "##", "a#", "\u00a0"}
	for i := range 256 {
		b := string([]byte{byte(i)})
		texts = append(texts, b, b+"a", "a"+b, "ab"+b+"c")
	}
	for _, s := range texts {
		if got := row.Bare(s); got != isBare(s) {
			t.Errorf("Bare(%.20q) = %v", s, got)
		}
	}
}

// TestP6_2Word: bare words as they are, quoted ones with what stands for each byte; ErrForm for what only a quoted word can be.
func TestP6_2Word(t *testing.T) {
	for i := range 256 {
		b := string([]byte{byte(i)})
		written := b
		switch {
		case i < 32 || i > 126:
			written = `\x` + string("0123456789abcdef"[i/16]) + string("0123456789abcdef"[i%16])
		case i == 34 || i == 92:
			written = `\` + b
		}
		for _, at := range []int{0, -3, math.MaxInt} {
			for _, s := range []string{"", "a", " ", "#"} {
				if got, e := row.Word(quoted(s+b+s, at)); got != `"`+s+written+s+`"` || e != api.OK {
					t.Errorf("Word(Quoted %q) = %s, %v", s+b+s, got, e)
				}
				got, e := row.Word(bare(s+b+s, at))
				if is := isBare(s + b + s); is && (got != s+b+s || e != api.OK) || !is && (got != "" || e != api.ErrForm) {
					t.Errorf("Word(%q) = %s, %v", s+b+s, got, e)
				}
			}
		}
	}
	if got, e := row.Word(quoted("", 0)); got != `""` || e != api.OK {
		t.Errorf("the empty word: %s, %v", got, e)
	}
	if got, e := row.Word(bare("", 0)); got != "" || e != api.ErrForm {
		t.Errorf("the empty word, not Quoted: %s, %v", got, e)
	}
	long := strings.Repeat("ab", 50000)
	if got, e := row.Word(bare(long, 0)); got != long || e != api.OK {
		t.Errorf("a long word: %v", e)
	}
}

// TestP6_2Make: words with these texts, Quoted only where they must be.
func TestP6_2Make(t *testing.T) {
	want := api.Row{Words: []api.Word{{Text: "a"}, {Text: "b c", Quoted: true}, {Quoted: true}, {Text: "#", Quoted: true}, {Text: "a#"}, {Text: `"`, Quoted: true}, {Text: `\`, Quoted: true}, {Text: "\xff", Quoted: true}, {Text: "a"}}}
	if got := row.Make("a", "b c", "", "#", "a#", `"`, `\`, "\xff", "a"); !reflect.DeepEqual(got, want) {
		t.Errorf("Make = %v", got)
	}
	for _, got := range []api.Row{row.Make(), row.Make([]string{}...)} {
		if got.At != 0 || len(got.Words) != 0 {
			t.Errorf("Make() = %v", got)
		}
	}
}

// texts are texts of numbers, and texts that are none.
func texts() []string {
	l := []string{"", "-", "+", "--1", "-+1", "+1", "0", "-0", "00", "-00", "01", "-01", "1", "-1", "7", "9", "10", "1a", "a", "f", "0x1", "1_0", "1.0", " 1", "1 ", "1e3", "/", ":", "1/", "1:", "١", "１", "1-", "1-1", "-", "- 1", "−1"}
	for _, s := range []string{"9223372036854775807", "9223372036854775808", "9223372036854775809", "18446744073709551614", "18446744073709551615", "18446744073709551616", "18446744073709551625", "20000000000000000000", "30000000000000000000", "36893488147419103232", "92233720368547758080", "99999999999999999999", "10000000000000000000", "12345678901234567890", "100000000000000000000", "184467440737095516150", "000000000000000000001", "123456789012345678901"} {
		l = append(l, s, "-"+s, "0"+s, s+"0", s[1:], "-"+s[1:])
	}
	for i := range 70 {
		l = append(l, new(big.Int).Lsh(big.NewInt(1), uint(i)).String(), strings.Repeat("9", i), "1"+strings.Repeat("0", i))
	}
	return l
}

// isDigits says whether s consists of 1 to 20 digits, without a leading zero unless it is 0.
func isDigits(s string) bool {
	for i := range len(s) {
		if s[i] < '0' || s[i] > '9' {
			return false
		}
	}
	return s == "0" || len(s) > 0 && len(s) <= 20 && s[0] != '0'
}

// value returns the number that the decimal digits of s are, perhaps behind a minus sign.
func value(s string) *big.Int {
	n, _ := new(big.Int).SetString(s, 10)
	return n
}

// TestP6_4Number: ErrForm for other forms, ErrRange for other numbers, also for those that no type can hold.
func TestP6_4Number(t *testing.T) {
	ends := []uint64{0, 1, 2, 9, 10, 1 << 32, math.MaxInt64, 1 << 63, math.MaxUint64 - 1, math.MaxUint64}
	for _, s := range texts() {
		for _, low := range ends {
			for _, high := range ends {
				want, err := uint64(0), api.ErrForm
				if isDigits(s) {
					n := value(s)
					err = api.ErrRange
					if n.Cmp(new(big.Int).SetUint64(low)) >= 0 && n.Cmp(new(big.Int).SetUint64(high)) <= 0 {
						want, err = n.Uint64(), api.OK
					}
				}
				if got, e := row.Number(bare(s, 5), low, high); got != want || e != err {
					t.Errorf("Number(%q, %d, %d) = %d, %v, not %d, %v", s, low, high, got, e, want, err)
				}
				if got, e := row.Number(quoted(s, 5), low, high); got != 0 || e != api.ErrForm {
					t.Errorf("Number(Quoted %q, %d, %d) = %d, %v", s, low, high, got, e)
				}
			}
		}
	}
}

// TestP6_4Signed: numbers of 64 bits with a sign; -0 has another form, and so has what has more than 20 digits.
func TestP6_4Signed(t *testing.T) {
	for _, s := range texts() {
		want, err := int64(0), api.ErrForm
		if digits, below := strings.CutPrefix(s, "-"); isDigits(digits) && !(below && digits == "0") {
			err = api.ErrRange
			if n := value(s); n.IsInt64() {
				want, err = n.Int64(), api.OK
			}
		}
		if got, e := row.Signed(bare(s, -5)); got != want || e != err {
			t.Errorf("Signed(%q) = %d, %v, not %d, %v", s, got, e, want, err)
		}
		if got, e := row.Signed(quoted(s, 0)); got != 0 || e != api.ErrForm {
			t.Errorf("Signed(Quoted %q) = %d, %v", s, got, e)
		}
	}
	for i := range 64 {
		for _, n := range []int64{1 << i, -1 << i, 1<<i - 1, 1 - 1<<i} {
			if got, e := row.Signed(bare(strconv.FormatInt(n, 10), 0)); got != n || e != api.OK {
				t.Errorf("Signed(%d) = %d, %v", n, got, e)
			}
		}
	}
}

// TestP6_4Which: the first name that the word is; ErrMissing if it is none of them, or Quoted.
func TestP6_4Which(t *testing.T) {
	for _, c := range []struct {
		w     api.Word
		names []string
		want  int
		e     api.Errno
	}{
		{bare("a", 0), []string{"a"}, 0, api.OK}, {bare("b", 9), []string{"a", "b", "b"}, 1, api.OK}, {bare("c", 0), []string{"a", "b", "c"}, 2, api.OK}, {bare("a", 0), []string{"A", "aa", "", "a"}, 3, api.OK}, {bare("", 0), []string{"a", ""}, 1, api.OK},
		{bare("a", 0), nil, 0, api.ErrMissing}, {bare("a", 0), []string{"b"}, 0, api.ErrMissing}, {bare("a", 0), []string{"ab", "A", ""}, 0, api.ErrMissing}, {bare("", 0), nil, 0, api.ErrMissing},
		{quoted("a", 0), []string{"a"}, 0, api.ErrMissing}, {quoted("b", 0), []string{"a", "b"}, 0, api.ErrMissing}, {quoted("c", 0), []string{"a", "b"}, 0, api.ErrMissing},
	} {
		if got, e := row.Which(c.w, c.names...); got != c.want || e != c.e {
			t.Errorf("Which(%v, %q) = %d, %v", c.w, c.names, got, e)
		}
	}
}

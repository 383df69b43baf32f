package sums_test

import (
	"math"
	"strings"
	"testing"

	"partywall/api"
	"partywall/sums"
)

// plainText writes a number digit by digit, the last one first.
func plainText(n int64) string {
	text, negative := "", n < 0
	for first := true; first || n != 0; first = false {
		digit := n % 10
		if digit < 0 {
			digit = -digit
		}
		text = string([]byte{byte('0' + digit)}) + text
		n /= 10
	}
	if negative {
		return "-" + text
	}
	return text
}

// naturalForm says whether s consists of digits, and begins with 0 only if it is 0, byte by byte.
func naturalForm(s string) bool {
	for i := range len(s) {
		if s[i] < '0' || s[i] > '9' {
			return false
		}
	}
	return len(s) == 1 || len(s) > 1 && s[0] != '0'
}

// integerForm says whether s has the form of a number, with or without a sign.
func integerForm(s string) bool {
	if len(s) > 0 && s[0] == '-' {
		return naturalForm(s[1:]) && s != "-0"
	}
	return naturalForm(s)
}

// short yields all strings of at most 4 bytes out of a few.
func short(yield func(string) bool) {
	const few = "0179-+ ._xe,\x00\xd9"
	strings, more := []string{""}, true
	for range 5 {
		var longer []string
		for _, s := range strings {
			if more = more && yield(s); !more {
				return
			}
			for i := range len(few) {
				longer = append(longer, s+few[i:i+1])
			}
		}
		strings = longer
	}
}

// odd are strings that are no digits, some of them longer than any number.
func odd() []string {
	return []string{"", "-", "--1", "+1", "+", "-+1", "1-", "1-1", " 1", "1 ", "\t1", "1\n", "00", "01", "007", "0_1", "1_000", "0x10", "0b1", "0o7", "1e3", "1.0", "1.", ".5", "1,000", "٣", "１", "½", "NaN", "inf", "1\x00", "\xff1", "99999999999999999999x", "x99999999999999999999", "099999999999999999999", "0" + strings.Repeat("9", 100), strings.Repeat("0", 100), strings.Repeat("1", 100000) + "-"}
}

// TestP5_3Text: decimal digits without needless zeros, with - before them below 0.
func TestP5_3Text(t *testing.T) {
	for _, n := range numbers() {
		if got := sums.Text(n); got != plainText(n) {
			t.Errorf("Text(%d) = %q, not %q", n, got, plainText(n))
		}
	}
}

// TestP5_3Int: the number of a text; ErrForm for other forms; ErrRange beyond the numbers.
func TestP5_3Int(t *testing.T) {
	for _, want := range numbers() {
		if got, e := sums.Int(plainText(want)); got != want || e != api.OK {
			t.Errorf("Int(%q) = %d, %v", plainText(want), got, e)
		}
	}
	for s := range short {
		got, e := sums.Int(s)
		if formed := integerForm(s); formed && (e != api.OK || plainText(got) != s) || !formed && (got != 0 || e != api.ErrForm) {
			t.Fatalf("Int(%q) = %d, %v", s, got, e)
		}
	}
	for _, s := range append(odd(), "-0", "-00", "-01", "- 1", "-", "-99999999999999999999x", "-0"+strings.Repeat("9", 30)) {
		if got, e := sums.Int(s); got != 0 || e != api.ErrForm {
			t.Errorf("Int(%.40q) = %d, %v", s, got, e)
		}
	}
	for _, s := range []string{"9223372036854775808", "-9223372036854775809", "9999999999999999999", "-9999999999999999999", "18446744073709551615", "18446744073709551616", "18446744073709551617", "-18446744073709551616", "10000000000000000000", "100000000000000000000", strings.Repeat("9", 100000), "-" + strings.Repeat("1", 100000)} {
		if got, e := sums.Int(s); got != 0 || e != api.ErrRange {
			t.Errorf("Int(%.40q) = %d, %v", s, got, e)
		}
	}
}

// TestP5_3Nat: the number of digits; ErrForm for other forms, among them a sign; ErrRange if it is greater than most.
func TestP5_3Nat(t *testing.T) {
	for s := range short {
		n, e := sums.Nat(s, math.MaxUint64)
		if formed := naturalForm(s); formed && (e != api.OK || plainText(int64(n)) != s) || !formed && (n != 0 || e != api.ErrForm) {
			t.Fatalf("Nat(%q) = %d, %v", s, n, e)
		}
	}
	for _, s := range append(odd(), "-0", "-1", "-9223372036854775808", "-99999999999999999999999") {
		for _, most := range []uint64{0, 9, math.MaxUint64} {
			if got, e := sums.Nat(s, most); got != 0 || e != api.ErrForm {
				t.Errorf("Nat(%.40q, %d) = %d, %v", s, most, got, e)
			}
		}
	}
	for _, c := range []struct {
		s          string
		most, want uint64
		e          api.Errno
	}{
		{"0", 0, 0, api.OK}, {"1", 0, 0, api.ErrRange}, {"1", 1, 1, api.OK}, {"2", 1, 0, api.ErrRange}, {"100", 99, 0, api.ErrRange}, {"100", 100, 100, api.OK}, {"99", 100, 99, api.OK},
		{"9223372036854775807", 1<<63 - 1, 1<<63 - 1, api.OK}, {"9223372036854775808", 1<<63 - 1, 0, api.ErrRange}, {"9223372036854775808", 1 << 63, 1 << 63, api.OK}, {"18446744073709551615", math.MaxUint64, math.MaxUint64, api.OK}, {"18446744073709551615", math.MaxUint64 - 1, 0, api.ErrRange},
		{"18446744073709551616", math.MaxUint64, 0, api.ErrRange}, {"18446744073709551617", 9, 0, api.ErrRange}, {"99999999999999999999", math.MaxUint64, 0, api.ErrRange}, {strings.Repeat("9", 100000), math.MaxUint64, 0, api.ErrRange}, {strings.Repeat("9", 30), 0, 0, api.ErrRange},
	} {
		if got, e := sums.Nat(c.s, c.most); got != c.want || e != c.e {
			t.Errorf("Nat(%.40q, %d) = %d, %v", c.s, c.most, got, e)
		}
	}
}

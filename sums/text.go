package sums

import (
	"strconv"
	"strings"

	"partywall/api"
)

const (
	// minus stands before the digits of a number below 0.
	minus = "-"
	// zero is the only text of digits that begins with its byte.
	zero = "0"
	// decimal are all digits.
	decimal = "0123456789"
)

// Text returns the text of n.
func Text(n int64) string { return strconv.FormatInt(n, 10) }

// Int returns the number whose text is s, ErrForm if s has another form, or ErrRange if that is no number.
func Int(s string) (int64, api.Errno) {
	digits, below := strings.CutPrefix(s, minus)
	if !isDigits(digits) || below && digits == zero {
		return 0, api.ErrForm
	}
	n, err := strconv.ParseInt(s, 10, 64)
	if err != nil {
		return 0, api.ErrRange
	}
	return n, api.OK
}

// Nat returns the number of at most most that the digits s are, ErrForm if s has another form, or ErrRange if it is greater.
func Nat(s string, most uint64) (uint64, api.Errno) {
	if !isDigits(s) {
		return 0, api.ErrForm
	}
	n, err := strconv.ParseUint(s, 10, 64)
	if err != nil || n > most {
		return 0, api.ErrRange
	}
	return n, api.OK
}

// isDigits says whether s consists of decimal digits without needless zeros, at least one.
func isDigits(s string) bool {
	if s == "" || strings.Trim(s, decimal) != "" {
		return false
	}
	return s == zero || !strings.HasPrefix(s, zero)
}

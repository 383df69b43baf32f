package token

import (
	"strings"

	"partywall/api"
)

// none is the kind of what is no token.
const none = 0

// The kinds of tokens, as api numbers them, and a number below 0, which begins with a byte of its own.
const (
	word = iota + api.TokWord
	letter
	number
	sign
	minus
)

const (
	// below stands before the digits of a number below 0.
	below = "-"
	// zero is the only number whose first digit is 0.
	zero = "0"
)

// signs are all signs, the longer ones first: the first one that is found is the longest one.
var signs = [...]string{"!=", "<=", ">=", "=", "<", ">", ";", "|", "{", "}", ",", "(", ")", "[", "]", "@", ":"}

// kindOf returns the kind of the tokens that begin with b, as far as b alone tells.
func kindOf(b byte) int {
	switch {
	case isSmall(b):
		return word
	case b >= 'A' && b <= 'Z':
		return letter
	case isDigit(b):
		return number
	case b == below[0]:
		return minus
	}
	return sign
}

// signOf returns the longest sign with which s begins, or nothing.
func signOf(s string) string {
next:
	for _, candidate := range signs {
		if len(candidate) > len(s) {
			continue
		}
		for i := range len(candidate) {
			if s[i] != candidate[i] {
				continue next
			}
		}
		return candidate
	}
	return ""
}

// isBlank says whether b may stand between tokens.
func isBlank(b byte) bool { return b == 9 || b == 10 || b == 13 || b == 32 }

// isSmall says whether b stands in words.
func isSmall(b byte) bool { return b >= 'a' && b <= 'z' }

// isDigit says whether b is a decimal digit.
func isDigit(b byte) bool { return b >= '0' && b <= '9' }

// isNumber says whether s, which is digits, perhaps behind a minus sign, is a number: there are digits, and no needless zero.
func isNumber(s string) bool {
	digits := strings.TrimPrefix(s, below)
	return digits != "" && (digits[:1] != zero || s == zero)
}

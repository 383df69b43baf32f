package token

import (
	"strconv"

	"partywall/api"
)

// Check returns the first error that a token has, or OK.
func Check(t api.Token) api.Errno {
	if t.Kind < word || t.Kind > sign {
		return api.ErrKind
	}
	// A text with anything before or behind its first token, or without one, gives another token.
	if first, _, _ := Next(t.Text, 0); first != (api.Token{Kind: t.Kind, Text: t.Text}) {
		return api.ErrForm
	}
	if t.At < 0 {
		return api.ErrRange
	}
	return api.OK
}

// Number returns the number that a token writes, or ErrRange unless it is from low to high.
func Number(t api.Token, low, high int64) (int64, api.Errno) {
	if err := Check(t); err != api.OK {
		return 0, err
	}
	if t.Kind != number {
		return 0, api.ErrKind
	}
	n, err := strconv.ParseInt(t.Text, 10, 64)
	if err != nil || n < low || n > high {
		return 0, api.ErrRange
	}
	return n, api.OK
}

// Word says whether s is a word of the language.
func Word(s string) bool {
	switch s {
	case "within", "having", "and", "emit", "not", "count", "sum", "min", "max", "first", "last":
		return true
	}
	return false
}

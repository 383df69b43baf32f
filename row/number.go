package row

import (
	"slices"
	"strings"

	"partywall/api"
)

const (
	// mostDigits is how many digits a number may be written with.
	mostDigits = 20
	// minus stands before the digits of a number below 0.
	minus = "-"
	// zero is the only number whose first digit is 0.
	zero = "0"
)

// Number returns the number that w is, ErrForm if it has another form, or ErrRange unless it is from low to high.
func Number(w api.Word, low, high uint64) (uint64, api.Errno) {
	if w.Quoted || !isNumber(w.Text) {
		return 0, api.ErrForm
	}
	n, ok := natural(w.Text)
	if !ok || n < low || n > high {
		return 0, api.ErrRange
	}
	return n, api.OK
}

// Signed returns the number that w is, perhaps behind a minus sign, ErrForm if it has another form, or ErrRange if that is no number.
func Signed(w api.Word) (int64, api.Errno) {
	text, below := strings.CutPrefix(w.Text, minus)
	if w.Quoted || !isNumber(text) || below && text == zero {
		return 0, api.ErrForm
	}
	most := uint64(1)<<63 - 1
	if below {
		// There is one number more below 0 than above it.
		most++
	}
	n, ok := natural(text)
	if !ok || n > most {
		return 0, api.ErrRange
	}
	if below {
		return int64(-n), api.OK
	}
	return int64(n), api.OK
}

// Which returns the number of the first name that w is, or ErrMissing if it is none of them.
func Which(w api.Word, names ...string) (int, api.Errno) {
	i := slices.Index(names, w.Text)
	if w.Quoted || i < 0 {
		return 0, api.ErrMissing
	}
	return i, api.OK
}

// isNumber says whether s consists of so few decimal digits, at least one, and none of them is a needless zero.
func isNumber(s string) bool {
	if s == "" || len(s) > mostDigits || s != zero && s[:1] == zero {
		return false
	}
	for i := range len(s) {
		if digit(s[i]) > 9 {
			return false
		}
	}
	return true
}

// natural returns the number that decimal digits stand for, and says whether 64 bits can hold it.
func natural(s string) (uint64, bool) {
	n := uint64(0)
	for i := range len(s) {
		// Ten times n is its eight times and its two times: each step could run over.
		eight, two, d := n<<3, n<<1, uint64(digit(s[i]))
		ten := eight + two
		if eight>>3 != n || ten < eight || ten+d < ten {
			return 0, false
		}
		n = ten + d
	}
	return n, true
}

package label

import (
	"strconv"
	"strings"

	"partywall/api"
)

// Text returns the text of l: its categories, ascending, with commas between them, in braces.
func Text(l uint64) string {
	var words []string
	for c := range categories(l) {
		words = append(words, strconv.Itoa(c))
	}
	return "{" + strings.Join(words, ",") + "}"
}

// Parse returns the label whose text is s, or the first fault, from the left.
func Parse(s string) (uint64, api.Fault) {
	l, used, f := Read(s)
	switch {
	case f.Err != api.OK:
		return 0, f
	case used < len(s):
		return 0, api.Fault{Err: api.ErrLong, At: used}
	}
	return l, api.Fault{}
}

// Read returns the label with whose text s begins, and how many bytes the text has, or the first fault, from the left.
func Read(s string) (l uint64, used int, f api.Fault) {
	if byteAt(s, 0) != '{' {
		return 0, 0, api.Fault{Err: api.ErrForm, At: 0}
	}
	if byteAt(s, 1) == '}' {
		return 0, 2, api.Fault{}
	}
	at, least := 1, 0
	for {
		c, end, f := number(s, at)
		if f.Err != api.OK {
			return 0, 0, f
		}
		if c < least {
			return 0, 0, api.Fault{Err: api.ErrOrder, At: at}
		}
		l |= 1 << c
		switch byteAt(s, end) {
		case '}':
			return l, end + 1, api.Fault{}
		case ',':
			at, least = end+1, c+1
		default:
			return 0, 0, api.Fault{Err: api.ErrForm, At: end}
		}
	}
}

// number reads the category that stands in s at this offset: it returns it, and the offset behind its digits.
func number(s string, at int) (c, end int, f api.Fault) {
	end = at
	for ; isDigit(byteAt(s, end)); end++ {
		// What is out of range stays so; cut down, it cannot wrap around.
		c = min(10*c+int(s[end]-'0'), greatest+1)
	}
	switch {
	case end == at:
		return 0, 0, api.Fault{Err: api.ErrForm, At: at}
	case s[at] == '0' && end > at+1:
		return 0, 0, api.Fault{Err: api.ErrForm, At: at + 1}
	case !isCategory(c):
		return 0, 0, api.Fault{Err: api.ErrRange, At: at}
	}
	return c, end, api.Fault{}
}

// byteAt returns the byte of s at this offset; behind the end 0, which no text of a label contains.
func byteAt(s string, at int) byte {
	if at >= len(s) {
		return 0
	}
	return s[at]
}

// isDigit says whether b is a decimal digit.
func isDigit(b byte) bool { return b >= '0' && b <= '9' }

package row

const (
	// quote stands at both ends of a quoted word.
	quote = '"'
	// escape stands before a byte that cannot stand for itself.
	escape = '\\'
	// hex stands between escape and two digits.
	hex = 'x'
	// remark begins a remark where a word would begin.
	remark = '#'
	// stop is what stands behind a line, and nowhere in it.
	stop = '\n'
	// digits are the digits that are written, in their order.
	digits = "0123456789abcdef"
	// noDigit is what a byte that is no digit counts as.
	noDigit = 16
)

// isBlank says whether b stands between words.
func isBlank(b byte) bool { return b == ' ' || b == '\t' }

// isPrinted says whether b is a byte that can be seen, or a space.
func isPrinted(b byte) bool { return b >= 32 && b <= 126 }

// isPlain says whether b stands for itself between quotation marks.
func isPlain(b byte) bool { return isPrinted(b) && b != quote && b != escape }

// digit returns the number that a hexadecimal digit stands for, or noDigit.
func digit(b byte) byte {
	switch {
	case b >= '0' && b <= '9':
		return b - '0'
	case b >= 'a' && b <= 'f':
		return b - 'a' + 10
	case b >= 'A' && b <= 'F':
		return b - 'A' + 10
	}
	return noDigit
}

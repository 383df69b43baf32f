package token

// cursor stands in a text, or at its end.
type cursor struct {
	text string
	at   int
}

// isDone says whether the text ends where the cursor stands.
func (c *cursor) isDone() bool { return c.at == len(c.text) }

// skip goes on to the first byte that is none of these, or to the end.
func (c *cursor) skip(isOne func(b byte) bool) {
	for !c.isDone() && isOne(c.text[c.at]) {
		c.at++
	}
}

// reader reads the token that begins at the offset from.
type reader struct {
	cursor
	from int
}

// newReader returns a reader that stands at the first byte from at on that is no blank.
func newReader(text string, at int) reader {
	r := reader{cursor: cursor{text, at}}
	r.skip(isBlank)
	r.from = r.at
	return r
}

// taken returns what the reader has passed of its token.
func (r *reader) taken() string { return r.text[r.from:r.at] }

// pass goes behind the token that begins here, and returns its kind, or none if there is no token.
func (r *reader) pass() int {
	switch kindOf(r.text[r.at]) {
	case word:
		r.skip(isSmall)
		return word
	case letter:
		r.at++
		return letter
	case minus:
		r.at++
		fallthrough
	case number:
		r.skip(isDigit)
		if isNumber(r.taken()) {
			return number
		}
	case sign:
		r.at += len(signOf(r.text[r.at:]))
		if r.at > r.from {
			return sign
		}
	}
	return none
}

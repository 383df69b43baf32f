package row

import "partywall/api"

// cursor stands in a line, which has no line feed.
type cursor struct {
	line string
	at   int
}

// next returns the byte at which the cursor stands, or stop behind the line.
func (c *cursor) next() byte {
	if c.at == len(c.line) {
		return stop
	}
	return c.line[c.at]
}

// take returns the byte at which the cursor stands, and goes behind it.
func (c *cursor) take() byte {
	b := c.next()
	if b != stop {
		c.at++
	}
	return b
}

// isBehind says whether a word may end where the cursor stands.
func (c *cursor) isBehind() bool { return c.next() == stop || isBlank(c.next()) }

// isDone goes to the next word, and says whether there is none.
func (c *cursor) isDone() bool {
	for isBlank(c.next()) {
		c.at++
	}
	return c.next() == stop || c.next() == remark
}

// reader reads the words of a line that begins at the offset from.
type reader struct {
	cursor
	from int
}

// word reads the word that begins here, and says whether it is one.
func (r *reader) word() (api.Word, bool) {
	w := api.Word{Quoted: r.next() == quote, At: r.from + r.at}
	ok := false
	if w.Quoted {
		w.Text, ok = r.quoted()
	} else {
		w.Text, ok = r.bare()
	}
	return w, ok
}

// bare reads up to the next blank, and says whether that is a bare word.
func (r *reader) bare() (string, bool) {
	first := r.at
	for !r.isBehind() {
		r.at++
	}
	s := r.line[first:r.at]
	return s, Bare(s)
}

// quoted reads a quoted word, and says whether it is one.
func (r *reader) quoted() (string, bool) {
	var text []byte
	for r.take(); r.next() != quote; {
		b, ok := r.letter()
		if !ok {
			return "", false
		}
		text = append(text, b)
	}
	r.take()
	return string(text), r.isBehind()
}

// letter reads the byte that stands next in a quoted word, in whatever form, and says whether there is one.
func (r *reader) letter() (byte, bool) {
	b := r.take()
	if b != escape {
		return b, isPlain(b)
	}
	switch b = r.take(); b {
	case quote, escape:
		return b, true
	case hex:
		high, low := digit(r.take()), digit(r.take())
		return high<<4 | low, high != noDigit && low != noDigit
	}
	return 0, false
}

// readLine returns the row of a line that begins at the offset from, without words if it has none, or its first fault.
func readLine(line string, from int) (api.Row, api.Fault) {
	if len(line) > api.MaxRow {
		return api.Row{}, fault(api.ErrLong, from)
	}
	r := reader{cursor{line, 0}, from}
	row := api.Row{At: from}
	for !r.isDone() {
		w, ok := r.word()
		if !ok {
			return api.Row{}, fault(api.ErrForm, w.At)
		}
		row.Words = append(row.Words, w)
	}
	return row, api.Fault{}
}

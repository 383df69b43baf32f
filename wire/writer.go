package wire

import (
	"strings"

	"partywall/api"
)

// writer is an api.WireWriter that is valid: the bytes of s are those that are used.
type writer struct {
	span
	s string
}

// resume returns the writer that w is, or as which it counts.
func resume(w api.WireWriter) writer {
	x := writer{span{len(w.S), w.Most, api.Fault{Err: w.Err}}, w.S}
	if w.Most > api.MaxText || !x.sound() {
		return writer{span: invalid()}
	}
	return x
}

// given returns the writer as callers know it, without the place of its error.
func (w *writer) given() api.WireWriter {
	return api.WireWriter{S: w.s, Most: w.most, Err: w.fault.Err}
}

// add writes all strings, or, if they do not fit, none.
func (w *writer) add(l ...string) {
	n := 0
	for _, s := range l {
		// One byte too many is as bad as all of them; cut down, the sum cannot wrap around.
		n = min(n+len(s), w.most+1)
	}
	if w.claim(n, api.ErrLong) {
		w.s += strings.Join(l, "")
	}
}

// Make returns the writer of at most this many bytes, without bytes.
func Make(most int) api.WireWriter {
	w := resume(api.WireWriter{Most: most})
	return w.given()
}

// Put writes a number as 1, 2, 4 or 8 bytes.
func Put(w api.WireWriter, size int, n uint64) api.WireWriter {
	x := resume(w)
	if !isSize(size) || !fits(n, size) {
		x.fail(api.ErrRange)
		return x.given()
	}
	x.add(digits(n, size))
	return x.given()
}

// PutInt64 writes a number with a sign as 8 bytes.
func PutInt64(w api.WireWriter, n int64) api.WireWriter {
	return Add(w, digits(n, signedSize))
}

// Add writes all strings, or, if they do not fit, none.
func Add(w api.WireWriter, l ...string) api.WireWriter {
	x := resume(w)
	x.add(l...)
	return x.given()
}

// PutSized writes a sized string.
func PutSized(w api.WireWriter, s string) api.WireWriter {
	x := resume(w)
	if len(s) > longest {
		x.fail(api.ErrRange)
		return x.given()
	}
	x.add(digits(len(s), lengthSize), s)
	return x.given()
}

// Done returns what was written, or the first error.
func Done(w api.WireWriter) (string, api.Errno) {
	x := resume(w)
	if x.failed() {
		return "", x.fault.Err
	}
	return x.s, api.OK
}

package wire

import "partywall/api"

// reader is an api.WireReader that is valid: the bytes of s that were read are those that are used.
type reader struct {
	span
	s string
}

// open returns the reader that r is, or as which it counts.
func open(r api.WireReader) reader {
	x := reader{span{r.At, len(r.S), r.Fault}, r.S}
	if !x.sound() {
		return reader{span: invalid()}
	}
	return x
}

// given returns the reader as callers know it.
func (r *reader) given() api.WireReader {
	return api.WireReader{S: r.s, At: r.used, Fault: r.fault}
}

// take reads n bytes, which are not below 0: none if that fails.
func (r *reader) take(n int) string {
	if !r.claim(n, api.ErrShort) {
		return ""
	}
	return r.s[r.used-n : r.used]
}

// refuse takes back what was read from this offset on, and fails there.
func (r *reader) refuse(err api.Errno, from int) {
	r.used = from
	r.fail(err)
}

// field reads a field of size bytes as a number.
func field[N integer](r *reader, size int) N {
	if !isSize(size) {
		r.fail(api.ErrRange)
		return 0
	}
	return number[N](r.take(size))
}

// sized reads a sized string of at most this many bytes.
func (r *reader) sized(most int) string {
	if !within(most, longest) {
		r.fail(api.ErrRange)
		return ""
	}
	from := r.used
	n := field[int](r, lengthSize)
	if n > most {
		r.refuse(api.ErrLong, from)
		return ""
	}
	return r.take(n)
}

// Read returns the reader of s at its beginning.
func Read(s string) api.WireReader { return api.WireReader{S: s} }

// Uint reads a field of 1, 2, 4 or 8 bytes as a number.
func Uint(r api.WireReader, size int) (api.WireReader, uint64) {
	x := open(r)
	n := field[uint64](&x, size)
	return x.given(), n
}

// Int64 reads a field of 8 bytes as a number with a sign.
func Int64(r api.WireReader) (api.WireReader, int64) {
	x := open(r)
	n := field[int64](&x, signedSize)
	return x.given(), n
}

// Bytes reads a field of n bytes.
func Bytes(r api.WireReader, n int) (api.WireReader, string) {
	x := open(r)
	if n < 0 {
		x.fail(api.ErrRange)
		return x.given(), ""
	}
	s := x.take(n)
	return x.given(), s
}

// Sized reads a sized string of at most this many bytes.
func Sized(r api.WireReader, most int) (api.WireReader, string) {
	x := open(r)
	s := x.sized(most)
	return x.given(), s
}

// Want reads as many bytes as s has; they must be those of s.
func Want(r api.WireReader, s string) api.WireReader {
	x := open(r)
	from := x.used
	if x.take(len(s)) != s {
		x.refuse(api.ErrForm, from)
	}
	return x.given()
}

// Fail gives the reader a fault, ErrForm if err is no error, at the place in its string that is nearest to at.
func Fail(r api.WireReader, err api.Errno, at int) api.WireReader {
	if !isError(err) {
		err = api.ErrForm
	}
	x := open(r)
	x.failAt(err, min(max(at, 0), x.most))
	return x.given()
}

// End returns the fault of the reader: ErrLong if bytes are left.
func End(r api.WireReader) api.Fault {
	x := open(r)
	if x.used < x.most {
		x.fail(api.ErrLong)
	}
	return x.fault
}

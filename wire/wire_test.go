package wire_test

import (
	"math"
	"strings"
	"testing"

	"partywall/api"
	"partywall/wire"
)

// spoiltReader and spoiltWriter are those as which one counts that is not valid.
var (
	spoiltReader = api.WireReader{Fault: fault(api.ErrState, 0)}
	spoiltWriter = api.WireWriter{Err: api.ErrState}
)

func fault(e api.Errno, at int) api.Fault { return api.Fault{Err: e, At: at} }

// at returns the reader of s at this offset.
func at(s string, n int) api.WireReader { return api.WireReader{S: s, At: n} }

// failed returns the reader of s at this offset with a fault at this one.
func failed(s string, n int, e api.Errno, where int) api.WireReader {
	return api.WireReader{S: s, At: n, Fault: fault(e, where)}
}

// reading is a function that reads, with what it reads as one value.
type reading struct {
	name string
	do   func(r api.WireReader) (api.WireReader, any)
	zero any
}

// readings are calls of all functions that read, with arguments that are right and with others.
func readings() []reading {
	var l []reading
	for _, size := range []int{0, 1, 2, 4, 8} {
		l = append(l, reading{"Uint", func(r api.WireReader) (api.WireReader, any) { return pair(wire.Uint(r, size)) }, uint64(0)})
	}
	l = append(l, reading{"Int64", func(r api.WireReader) (api.WireReader, any) { return pair(wire.Int64(r)) }, int64(0)})
	for _, n := range []int{-1, 0, 1, 3} {
		l = append(l, reading{"Bytes", func(r api.WireReader) (api.WireReader, any) { return pair(wire.Bytes(r, n)) }, ""})
	}
	for _, most := range []int{-1, 0, 1, 65535, 65536} {
		l = append(l, reading{"Sized", func(r api.WireReader) (api.WireReader, any) { return pair(wire.Sized(r, most)) }, ""})
	}
	for _, s := range []string{"", "a", "\x00", "none of the strings"} {
		l = append(l, reading{"Want", func(r api.WireReader) (api.WireReader, any) { return wire.Want(r, s), nil }, nil})
	}
	return l
}

func pair[T any](r api.WireReader, x T) (api.WireReader, any) { return r, x }

// writings are calls of all functions that write, with arguments that are right and with others.
func writings() []func(w api.WireWriter) api.WireWriter {
	var l []func(w api.WireWriter) api.WireWriter
	for _, size := range []int{0, 1, 2, 4, 8} {
		for _, n := range []uint64{0, 300} {
			l = append(l, func(w api.WireWriter) api.WireWriter { return wire.Put(w, size, n) })
		}
	}
	for _, s := range []string{"", "a", strings.Repeat("b", 30000), strings.Repeat("c", 70000)} {
		l = append(l,
			func(w api.WireWriter) api.WireWriter { return wire.Add(w, s) },
			func(w api.WireWriter) api.WireWriter { return wire.Add(w, s, s) },
			func(w api.WireWriter) api.WireWriter { return wire.PutSized(w, s) })
	}
	return append(l,
		func(w api.WireWriter) api.WireWriter { return wire.Add(w) },
		func(w api.WireWriter) api.WireWriter { return wire.PutInt64(w, -1) })
}

// TestReaderNotValid: a reader that is not valid counts as one without bytes, with the fault ErrState at 0.
func TestReaderNotValid(t *testing.T) {
	for _, r := range []api.WireReader{
		at("ab", -1), at("ab", 3), at("", 1), at("ab", math.MaxInt), at("ab", math.MinInt),
		failed("ab", 1, api.OK, 1), failed("ab", 1, api.OK, -1), failed("ab", 0, api.OK, 2),
		failed("ab", 1, -1, 0), failed("ab", 1, 24, 0), failed("ab", 1, math.MaxInt, 0), failed("ab", 1, math.MinInt, 0),
		failed("ab", 1, api.ErrForm, -1), failed("ab", 1, api.ErrForm, 3), failed("", 0, api.ErrForm, 1), failed("ab", 1, api.ErrForm, math.MaxInt),
		failed("ab", -1, api.ErrForm, 0), failed("ab", 3, api.ErrForm, 0), failed("ab", 3, api.ErrForm, 3),
	} {
		for _, c := range readings() {
			if x, v := c.do(r); x != spoiltReader || v != c.zero {
				t.Errorf("%s(%+v) = %+v, %v", c.name, r, x, v)
			}
		}
		if x := wire.Fail(r, api.ErrKind, 1); x != spoiltReader {
			t.Errorf("Fail(%+v) = %+v", r, x)
		}
		if f := wire.End(r); f != spoiltReader.Fault {
			t.Errorf("End(%+v) = %v", r, f)
		}
	}
}

// TestReaderValid: at both ends of their ranges At, Err and the offset of a fault are valid.
func TestReaderValid(t *testing.T) {
	for _, r := range []api.WireReader{{}, at("", 0), at("ab", 0), at("ab", 2)} {
		if x, s := wire.Bytes(r, 0); x != r || s != "" {
			t.Errorf("Bytes(%+v, 0) = %+v, %q", r, x, s)
		}
	}
	for e := api.ErrNil; e <= api.ErrLines; e++ {
		for _, r := range []api.WireReader{failed("", 0, e, 0), failed("ab", 0, e, 0), failed("ab", 0, e, 2), failed("ab", 2, e, 0), failed("ab", 2, e, 2)} {
			if f := wire.End(r); f != r.Fault {
				t.Errorf("End(%+v) = %v", r, f)
			}
		}
	}
}

// TestWriterNotValid: a writer that is not valid counts as one without bytes, with Most 0 and the error ErrState.
func TestWriterNotValid(t *testing.T) {
	for _, w := range []api.WireWriter{
		{Most: -1}, {Most: math.MinInt}, {Most: 20001}, {Most: math.MaxInt}, {S: "a"}, {S: "abc", Most: 2}, {S: "abc", Most: -3}, {S: strings.Repeat("a", 20001), Most: 20001}, {S: strings.Repeat("a", 20001), Most: 20000},
		{Most: 2, Err: -1}, {Most: 2, Err: 24}, {Most: 2, Err: math.MaxInt}, {Most: 2, Err: math.MinInt}, {Most: -1, Err: api.ErrLong}, {S: "abc", Most: 2, Err: api.ErrLong},
	} {
		for i, do := range writings() {
			if x := do(w); x != spoiltWriter {
				t.Errorf("writing %d to %+v: %+v", i, w, x)
			}
		}
		if s, e := wire.Done(w); s != "" || e != api.ErrState {
			t.Errorf("Done(%+v) = %q, %v", w, s, e)
		}
	}
}

// TestWriterValid: at both ends of their ranges Most, the length of S and Err are valid.
func TestWriterValid(t *testing.T) {
	full := strings.Repeat("a", 20000)
	for _, w := range []api.WireWriter{{}, {Most: 1}, {S: "a", Most: 1}, {Most: 20000}, {S: full, Most: 20000}} {
		if s, e := wire.Done(w); s != w.S || e != api.OK {
			t.Errorf("Done(%+v) = %q, %v", w, s, e)
		}
		if x := wire.Add(w); x != w {
			t.Errorf("Add(%+v) = %+v", w, x)
		}
	}
	for e := api.ErrNil; e <= api.ErrLines; e++ {
		for _, w := range []api.WireWriter{{Err: e}, {S: "a", Most: 1, Err: e}, {S: "a", Most: 20000, Err: e}, {S: full, Most: 20000, Err: e}} {
			if s, got := wire.Done(w); s != "" || got != e {
				t.Errorf("Done(%+v) = %q, %v", w, s, got)
			}
		}
	}
}

// TestExamples: the chapter's table, row by row.
func TestExamples(t *testing.T) {
	r, n := wire.Uint(wire.Read("\x01\x02\x03"), 2)
	r, m := wire.Uint(r, 1)
	want(t, "row 1", []any{n, m, wire.End(r)}, uint64(258), uint64(3), api.Fault{})

	one := wire.Read("\x01")
	want(t, "row 2, short", read(wire.Uint(one, 2)), failed("\x01", 0, api.ErrShort, 0), uint64(0))
	want(t, "row 2, range", read(wire.Uint(one, 3)), failed("\x01", 0, api.ErrRange, 0), uint64(0))
	ff := strings.Repeat("\xff", 8)
	want(t, "row 2, signed", read(wire.Int64(wire.Read(ff))), at(ff, 8), int64(-1))

	abc := "\x00\x02abc"
	want(t, "row 3, ab", read(wire.Sized(wire.Read(abc), 2)), at(abc, 4), "ab")
	want(t, "row 3, long", read(wire.Sized(wire.Read(abc), 1)), failed(abc, 0, api.ErrLong, 0), "")
	want(t, "row 3, short", read(wire.Sized(wire.Read("\x00\x02a"), 9)), failed("\x00\x02a", 2, api.ErrShort, 2), "")
	want(t, "row 3, no length", read(wire.Sized(wire.Read("\x00"), 9)), failed("\x00", 0, api.ErrShort, 0), "")

	want(t, "row 4", []any{wire.Want(wire.Read("abc"), "ab"), wire.Want(wire.Read("abc"), "ax"), wire.End(wire.Read("a"))},
		at("abc", 2), failed("abc", 0, api.ErrForm, 0), fault(api.ErrLong, 0))

	want(t, "row 5, 258", read(wire.Done(wire.Put(wire.Make(2), 2, 258))), "\x01\x02", api.OK)
	want(t, "row 5, range", read(wire.Done(wire.Put(wire.Make(2), 1, 256))), "", api.ErrRange)
	want(t, "row 5, long", read(wire.Done(wire.Put(wire.Make(1), 2, 1))), "", api.ErrLong)

	want(t, "row 6, sized", read(wire.Done(wire.PutSized(wire.Make(9), "ab"))), "\x00\x02ab", api.OK)
	want(t, "row 6, long", read(wire.Done(wire.Add(wire.Make(3), "ab", "cd"))), "", api.ErrLong)
	want(t, "row 6, signed", read(wire.Done(wire.PutInt64(wire.Make(8), -2))), ff[:7]+"\xfe", api.OK)
}

func read[A, B any](a A, b B) []any { return []any{a, b} }

// want compares results with those that are wanted.
func want(t *testing.T, name string, got []any, wanted ...any) {
	t.Helper()
	for i := range wanted {
		if got[i] != wanted[i] {
			t.Errorf("%s, result %d: %+v, not %+v", name, i, got[i], wanted[i])
		}
	}
}

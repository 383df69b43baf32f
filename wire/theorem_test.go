package wire_test

import (
	"cmp"
	"math"
	"strings"
	"testing"

	"partywall/api"
	"partywall/wire"
)

// item is something that is written and read again.
type item struct {
	name  string
	bytes int
	put   func(w api.WireWriter) api.WireWriter
	get   func(r api.WireReader) (r2 api.WireReader, same bool)
}

// items are things of all kinds.
func items() []item {
	var l []item
	for _, c := range []struct {
		size int
		n    uint64
	}{{1, 0}, {1, 255}, {2, 258}, {4, 1<<32 - 1}, {8, 1 << 63}, {8, 77}} {
		l = append(l, item{"Put", c.size, func(w api.WireWriter) api.WireWriter { return wire.Put(w, c.size, c.n) }, func(r api.WireReader) (api.WireReader, bool) {
			r, n := wire.Uint(r, c.size)
			return r, n == c.n
		}})
	}
	for _, n := range []int64{0, -2, math.MinInt64, math.MaxInt64} {
		l = append(l, item{"PutInt64", 8, func(w api.WireWriter) api.WireWriter { return wire.PutInt64(w, n) }, func(r api.WireReader) (api.WireReader, bool) {
			r, m := wire.Int64(r)
			return r, m == n
		}})
	}
	for _, s := range []string{"", "a", "\x00\xff\x00", strings.Repeat("b", 300)} {
		l = append(l, item{"PutSized", 2 + len(s), func(w api.WireWriter) api.WireWriter { return wire.PutSized(w, s) }, func(r api.WireReader) (api.WireReader, bool) {
			r, x := wire.Sized(r, len(s))
			return r, x == s
		}}, item{"Add, Bytes", len(s) + 1, func(w api.WireWriter) api.WireWriter { return wire.Add(w, s, "x") }, func(r api.WireReader) (api.WireReader, bool) {
			r, x := wire.Bytes(r, len(s)+1)
			return r, x == s+"x"
		}}, item{"Add, Want", len(s), func(w api.WireWriter) api.WireWriter { return wire.Add(w, s) }, func(r api.WireReader) (api.WireReader, bool) {
			return wire.Want(r, s), true
		}})
	}
	return l
}

// TestP2_5Back: three things of any kinds are read as they were written, in a writer with just enough room; with less there is no result.
func TestP2_5Back(t *testing.T) {
	l := items()
	for _, a := range l {
		for _, b := range l {
			for _, c := range l {
				three, most := []item{a, b, c}, a.bytes+b.bytes+c.bytes
				s, e := written(most, three)
				if len(s) != most || e != api.OK {
					t.Fatalf("%s, %s, %s: %d bytes, not %d, %v", a.name, b.name, c.name, len(s), most, e)
				}
				r, same := api.WireReader{S: s}, true
				for _, x := range three {
					if r, same = x.get(r); !same {
						t.Errorf("%s of %s, %s, %s is not read back", x.name, a.name, b.name, c.name)
					}
				}
				if f := wire.End(r); f != (api.Fault{}) {
					t.Errorf("%s, %s, %s: %v", a.name, b.name, c.name, f)
				}
				if most == 0 {
					continue
				}
				if s, e := written(most-1, three); s != "" || e != api.ErrLong {
					t.Errorf("%s, %s, %s, too long: %d bytes, %v", a.name, b.name, c.name, len(s), e)
				}
			}
		}
	}
}

func written(most int, l []item) (string, api.Errno) {
	w := wire.Make(most)
	for _, x := range l {
		w = x.put(w)
	}
	return wire.Done(w)
}

// samples are strings of bytes with which fields of all kinds can be read, and not read.
func samples() []string {
	l := []string{"", strings.Repeat("\x00", 30), strings.Repeat("\xff", 30), strings.Repeat("\x00\x01a", 9)}
	for n := range 12 {
		l = append(l, "\x00\x02abc\x00\x00\xff\xff\x01\x00\x03"[:n])
	}
	return l
}

// TestP2_6Whole: after each reading the string is still whole, At has not fallen, and what was read is what stands between.
func TestP2_6Whole(t *testing.T) {
	for _, s := range samples() {
		for _, a := range readings() {
			for _, b := range readings() {
				r, all := wire.Read(s), ""
				for _, c := range []reading{a, b} {
					next, v := c.do(r)
					if next.S != s || next.At < r.At || next.At > len(s) {
						t.Fatalf("%s of %+v: %+v", c.name, r, next)
					}
					part := s[r.At:next.At]
					if next.Fault == (api.Fault{}) && !means(part, v) {
						t.Errorf("%s of %+v: %v, but %q was read", c.name, r, v, part)
					}
					if next.Fault != (api.Fault{}) && (v != c.zero || next.Fault.At != next.At) {
						t.Errorf("%s of %+v: %v, %+v", c.name, r, v, next)
					}
					all += part
					r = next
				}
				if all+r.S[r.At:] != s {
					t.Errorf("%q and %q are not %q", all, r.S[r.At:], s)
				}
			}
		}
	}
}

// means says whether v is what a field with these bytes stands for.
func means(part string, v any) bool {
	switch x := v.(type) {
	case uint64:
		return x == sum(part)
	case int64:
		return uint64(x) == sum(part)
	case string:
		return part == x || part == string([]byte{byte(len(x) >> 8), byte(len(x))})+x
	}
	return true
}

// sum is the sum of the bytes of s, each times 256 to the power of its place from the end.
func sum(s string) uint64 {
	n, power := uint64(0), uint64(1)
	for i := len(s) - 1; i >= 0; i-- {
		n += uint64(s[i]) * power
		power *= 256
	}
	return n
}

// TestP2_7Reader: a reader with a fault does not change, and nothing is read.
func TestP2_7Reader(t *testing.T) {
	for e := api.ErrNil; e <= api.ErrLines; e++ {
		for _, r := range []api.WireReader{failed("", 0, e, 0), failed("\x00\x01ab", 0, e, 0), failed("\x00\x01ab", 0, e, 4), failed("\x00\x01ab", 4, e, 0), failed("\x00\x01ab", 2, e, 1)} {
			for _, c := range readings() {
				if x, v := c.do(r); x != r || v != c.zero {
					t.Errorf("%s of %+v: %+v, %v", c.name, r, x, v)
				}
			}
			for _, x := range []api.WireReader{wire.Fail(r, api.ErrKind, 3), wire.Fail(r, 0, -1), wire.Fail(r, 99, 99)} {
				if x != r {
					t.Errorf("Fail of %+v: %+v", r, x)
				}
			}
			if f := wire.End(r); f != r.Fault {
				t.Errorf("End of %+v: %v", r, f)
			}
		}
	}
}

// TestP2_7Writer: a writer with an error does not change.
func TestP2_7Writer(t *testing.T) {
	for e := api.ErrNil; e <= api.ErrLines; e++ {
		for _, w := range []api.WireWriter{{Err: e}, {Most: 20000, Err: e}, {S: "ab", Most: 2, Err: e}, {S: "ab", Most: 99, Err: e}} {
			for i, do := range writings() {
				if x := do(w); x != w {
					t.Errorf("writing %d to %+v: %+v", i, w, x)
				}
			}
			if s, got := wire.Done(w); s != "" || got != e {
				t.Errorf("Done(%+v) = %q, %v", w, s, got)
			}
		}
	}
}

// numbers are some of all magnitudes that fit into so many bytes.
func numbers(size int) []uint64 {
	var l []uint64
	for shift := range 8 * size {
		n := uint64(1) << shift
		l = append(l, n, n-1, n+n-1, 0x0123456789abcdef>>(64-8*size)&^n)
	}
	return l
}

// TestP2_8Numbers: a number is the sum of its bytes, both ways, and numbers are ordered as their bytes are.
func TestP2_8Numbers(t *testing.T) {
	for _, size := range []int{1, 2, 4, 8} {
		before, last := uint64(0), put(t, size, 0)
		for _, n := range numbers(size) {
			bytes := put(t, size, n)
			r, m := wire.Uint(wire.Read(bytes), size)
			if len(bytes) != size || sum(bytes) != n || m != n || r != at(bytes, size) {
				t.Errorf("%d as %d bytes: %q, read as %d", n, size, bytes, m)
			}
			if cmp.Compare(n, before) != strings.Compare(bytes, last) {
				t.Errorf("%d and %d, but %q and %q", n, before, bytes, last)
			}
			before, last = n, bytes
		}
	}
}

// put returns the bytes of n.
func put(t *testing.T, size int, n uint64) string {
	t.Helper()
	s, e := wire.Done(wire.Put(wire.Make(size), size, n))
	if e != api.OK {
		t.Errorf("%d as %d bytes: %v", n, size, e)
	}
	return s
}

// TestP2_8Signed: a number with a sign has the bytes of the number without one from which it differs by 2^64 if it is below 0.
func TestP2_8Signed(t *testing.T) {
	for _, n := range numbers(8) {
		s, e := wire.Done(wire.PutInt64(wire.Make(8), int64(n)))
		r, m := wire.Int64(wire.Read(s))
		if e != api.OK || sum(s) != n || m != int64(n) || r != at(s, 8) {
			t.Errorf("%d: %q, %v, read as %d", int64(n), s, e, m)
		}
	}
}

package wire_test

import (
	"math"
	"strings"
	"testing"

	"partywall/api"
	"partywall/wire"
)

// TestP2_1Read: the reader of any string is at its beginning, and has no fault.
func TestP2_1Read(t *testing.T) {
	for _, s := range []string{"", "a", "\x00\xff", strings.Repeat("é", 40000)} {
		if r := wire.Read(s); r != (api.WireReader{S: s}) {
			t.Errorf("Read(%q) = %+v", s, r)
		}
	}
}

// TestP2_1Uint: fields of 1, 2, 4 and 8 bytes, at the beginning of a string and within it.
func TestP2_1Uint(t *testing.T) {
	for _, c := range []struct {
		field string
		n     uint64
	}{
		{"\x00", 0}, {"\x7f", 127}, {"\x80", 128}, {"\xff", 255},
		{"\x00\x00", 0}, {"\x01\x02", 258}, {"\x80\x00", 32768}, {"\xff\xff", 65535}, {"\x00\xff", 255},
		{"\x01\x02\x03\x04", 0x01020304}, {"\x80\x00\x00\x00", 1 << 31}, {"\xff\xff\xff\xff", 1<<32 - 1},
		{"\x01\x02\x03\x04\x05\x06\x07\x08", 0x0102030405060708}, {"\x80\x00\x00\x00\x00\x00\x00\x00", 1 << 63}, {"\xff\xff\xff\xff\xff\xff\xff\xff", math.MaxUint64}, {"\xfe\xdc\xba\x98\x76\x54\x32\x10", 0xfedcba9876543210},
	} {
		size := len(c.field)
		for _, before := range []string{"", "x", "\xff\xff\xff"} {
			for _, behind := range []string{"", "\x00", "rest of it"} {
				s := before + c.field + behind
				if r, n := wire.Uint(at(s, len(before)), size); n != c.n || r != at(s, len(before)+size) {
					t.Errorf("Uint of %q at %d = %d, %+v", s, len(before), n, r)
				}
			}
		}
		for left := range size {
			s := "xy" + c.field[:left]
			if r, n := wire.Uint(at(s, 2), size); n != 0 || r != failed(s, 2, api.ErrShort, 2) {
				t.Errorf("Uint of %q = %d, %+v", s, n, r)
			}
		}
	}
}

// TestP2_1Size: ErrRange at At for all other sizes, also if fewer bytes are left.
func TestP2_1Size(t *testing.T) {
	for _, size := range []int{0, -1, -2, -8, 3, 5, 6, 7, 9, 10, 12, 16, 32, 64, 65, 257, 1 << 32, math.MaxInt, math.MinInt} {
		for _, n := range []int{0, 7, 20} {
			s := strings.Repeat("a", 20)
			if r, x := wire.Uint(at(s, n), size); x != 0 || r != failed(s, n, api.ErrRange, n) {
				t.Errorf("Uint at %d of %d bytes = %d, %+v", n, size, x, r)
			}
		}
	}
}

// TestP2_1Int64: 8 bytes as a number with a sign.
func TestP2_1Int64(t *testing.T) {
	for _, c := range []struct {
		field string
		n     int64
	}{
		{"\x00\x00\x00\x00\x00\x00\x00\x00", 0}, {"\x00\x00\x00\x00\x00\x00\x01\x02", 258}, {"\x7f\xff\xff\xff\xff\xff\xff\xff", math.MaxInt64}, {"\x80\x00\x00\x00\x00\x00\x00\x00", math.MinInt64}, {"\x80\x00\x00\x00\x00\x00\x00\x01", math.MinInt64 + 1}, {"\xff\xff\xff\xff\xff\xff\xff\xff", -1}, {"\xff\xff\xff\xff\xff\xff\xfe\xfe", -258}, {"\x01\x02\x03\x04\x05\x06\x07\x08", 0x0102030405060708},
	} {
		s := "ab" + c.field + "c"
		if r, n := wire.Int64(at(s, 2)); n != c.n || r != at(s, 10) {
			t.Errorf("Int64(%q) = %d, %+v", s, n, r)
		}
		for left := range 8 {
			s := "ab" + c.field[:left]
			if r, n := wire.Int64(at(s, 2)); n != 0 || r != failed(s, 2, api.ErrShort, 2) {
				t.Errorf("Int64(%q) = %d, %+v", s, n, r)
			}
		}
	}
}

// TestP2_1Bytes: n bytes; ErrRange below 0; ErrShort if fewer are left.
func TestP2_1Bytes(t *testing.T) {
	const s = "a\x00bc\xff"
	for from := range len(s) + 1 {
		for n := range len(s) - from + 1 {
			if r, x := wire.Bytes(at(s, from), n); x != s[from:from+n] || r != at(s, from+n) {
				t.Errorf("Bytes at %d, %d = %q, %+v", from, n, x, r)
			}
		}
		for _, n := range []int{len(s) - from + 1, len(s) + 1, 65536, math.MaxInt - 1, math.MaxInt} {
			if r, x := wire.Bytes(at(s, from), n); x != "" || r != failed(s, from, api.ErrShort, from) {
				t.Errorf("Bytes at %d, %d = %q, %+v", from, n, x, r)
			}
		}
		for _, n := range []int{-1, -2, -from, math.MinInt} {
			if r, x := wire.Bytes(at(s, from), n); n < 0 && (x != "" || r != failed(s, from, api.ErrRange, from)) {
				t.Errorf("Bytes at %d, %d = %q, %+v", from, n, x, r)
			}
		}
	}
}

// TestP2_2Sized: sized strings, and each of their faults, with At before the length or behind it.
func TestP2_2Sized(t *testing.T) {
	for _, c := range []struct {
		s    string
		most int
		want string
		at   int
		f    api.Fault
	}{
		{"\x00\x00", 0, "", 2, api.Fault{}}, {"\x00\x00x", 9, "", 2, api.Fault{}}, {"\x00\x03abc", 3, "abc", 5, api.Fault{}}, {"\x00\x03abcd", 4, "abc", 5, api.Fault{}}, {"\x00\x02\xff\x00", 65535, "\xff\x00", 4, api.Fault{}},
		// most is no length
		{"\x00\x01a", -1, "", 0, fault(api.ErrRange, 0)}, {"\x00\x01a", 65536, "", 0, fault(api.ErrRange, 0)}, {"\x00\x01a", math.MaxInt, "", 0, fault(api.ErrRange, 0)}, {"\x00\x01a", math.MinInt, "", 0, fault(api.ErrRange, 0)}, {"", -1, "", 0, fault(api.ErrRange, 0)}, {"\x00", 65536, "", 0, fault(api.ErrRange, 0)},
		// the length is not whole
		{"", 0, "", 0, fault(api.ErrShort, 0)}, {"\x00", 0, "", 0, fault(api.ErrShort, 0)}, {"\xff", 1, "", 0, fault(api.ErrShort, 0)},
		// the length is too great, whether the bytes are there or not
		{"\x00\x01a", 0, "", 0, fault(api.ErrLong, 0)}, {"\x00\x04abcd", 3, "", 0, fault(api.ErrLong, 0)}, {"\x00\x04", 3, "", 0, fault(api.ErrLong, 0)}, {"\x01\x00", 255, "", 0, fault(api.ErrLong, 0)}, {"\xff\xff", 65534, "", 0, fault(api.ErrLong, 0)},
		// too few bytes
		{"\x00\x01", 1, "", 2, fault(api.ErrShort, 2)}, {"\x00\x04abc", 4, "", 2, fault(api.ErrShort, 2)}, {"\x01\x00abc", 256, "", 2, fault(api.ErrShort, 2)}, {"\xff\xff", 65535, "", 2, fault(api.ErrShort, 2)},
	} {
		for _, before := range []string{"", "\x00", "abc"} {
			s, n := before+c.s, len(before)
			wanted := api.WireReader{S: s, At: n + c.at, Fault: c.f}
			if c.f.Err != api.OK {
				wanted.Fault.At += n
			}
			if r, x := wire.Sized(at(s, n), c.most); x != c.want || r != wanted {
				t.Errorf("Sized of %q at %d, %d = %q, %+v", s, n, c.most, x, r)
			}
		}
	}
}

// TestP2_2Longest: a sized string may have 65,535 bytes.
func TestP2_2Longest(t *testing.T) {
	s := "\xff\xff" + strings.Repeat("é", 32768)
	if r, x := wire.Sized(wire.Read(s), 65535); x != s[2:65537] || r != at(s, 65537) {
		t.Errorf("%d bytes, At %d, %v", len(x), r.At, r.Fault)
	}
	if r, x := wire.Sized(wire.Read(s), 65534); x != "" || r != failed(s, 0, api.ErrLong, 0) {
		t.Errorf("%d bytes, At %d, %v", len(x), r.At, r.Fault)
	}
	if r, x := wire.Sized(wire.Read(s[:65536]), 65535); x != "" || r != failed(s[:65536], 2, api.ErrShort, 2) {
		t.Errorf("%d bytes, At %d, %v", len(x), r.At, r.Fault)
	}
}

// TestP2_2Want: these bytes are read; others are ErrForm where they begin, too few of them ErrShort.
func TestP2_2Want(t *testing.T) {
	for _, c := range []struct {
		s    string
		at   int
		want string
		then int
		f    api.Fault
	}{
		{"abc", 0, "", 0, api.Fault{}}, {"abc", 0, "abc", 3, api.Fault{}}, {"abc", 1, "b", 2, api.Fault{}}, {"abc", 3, "", 3, api.Fault{}}, {"", 0, "", 0, api.Fault{}}, {"\x00\xff", 0, "\x00\xff", 2, api.Fault{}},
		{"abc", 0, "b", 0, fault(api.ErrForm, 0)}, {"abc", 0, "abd", 0, fault(api.ErrForm, 0)}, {"abc", 1, "bd", 1, fault(api.ErrForm, 1)}, {"abc", 1, "a", 1, fault(api.ErrForm, 1)}, {"abc", 0, "ABC", 0, fault(api.ErrForm, 0)}, {"\x00", 0, "\x01", 0, fault(api.ErrForm, 0)},
		{"", 0, "a", 0, fault(api.ErrShort, 0)}, {"abc", 0, "abcd", 0, fault(api.ErrShort, 0)}, {"abc", 2, "cd", 2, fault(api.ErrShort, 2)}, {"abc", 3, "c", 3, fault(api.ErrShort, 3)}, {"abc", 1, "xyz", 1, fault(api.ErrShort, 1)},
	} {
		if r := wire.Want(at(c.s, c.at), c.want); r != (api.WireReader{S: c.s, At: c.then, Fault: c.f}) {
			t.Errorf("Want at %d of %q, %q = %+v", c.at, c.s, c.want, r)
		}
	}
}

// TestP2_2Fail: the fault that is given, as an error, within the string; At stays.
func TestP2_2Fail(t *testing.T) {
	for n := range 4 {
		for e := api.Errno(-3); e < 30; e++ {
			wanted := e
			if e < 1 || e > 23 {
				wanted = api.ErrForm
			}
			for where, there := range map[int]int{-1: 0, math.MinInt: 0, 0: 0, 1: 1, 2: 2, 3: 3, 4: 3, math.MaxInt: 3} {
				if r := wire.Fail(at("abc", n), e, where); r != failed("abc", n, wanted, there) {
					t.Errorf("Fail at %d, %d, %d = %+v", n, e, where, r)
				}
			}
		}
	}
	for _, e := range []api.Errno{math.MaxInt, math.MinInt} {
		if r := wire.Fail(wire.Read(""), e, 1); r != failed("", 0, api.ErrForm, 0) {
			t.Errorf("Fail(%d) = %+v", e, r)
		}
	}
}

// TestP2_3End: the fault, or ErrLong at the first byte that is left.
func TestP2_3End(t *testing.T) {
	for n := range 3 {
		if f := wire.End(at("abc", n)); f != fault(api.ErrLong, n) {
			t.Errorf("End at %d = %v", n, f)
		}
	}
	for _, r := range []api.WireReader{at("abc", 3), wire.Read(""), {}} {
		if f := wire.End(r); f != (api.Fault{}) {
			t.Errorf("End(%+v) = %v", r, f)
		}
	}
	for _, r := range []api.WireReader{failed("abc", 1, api.ErrForm, 2), failed("abc", 3, api.ErrShort, 0), failed("abc", 0, api.ErrLines, 3)} {
		if f := wire.End(r); f != r.Fault {
			t.Errorf("End(%+v) = %v", r, f)
		}
	}
}

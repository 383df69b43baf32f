package wire_test

import (
	"math"
	"slices"
	"strings"
	"testing"

	"partywall/api"
	"partywall/wire"
)

// TestP2_4Make: a writer without bytes; ErrState unless Most is from 0 to 20,000.
func TestP2_4Make(t *testing.T) {
	for _, most := range []int{0, 1, 19999, 20000} {
		if w := wire.Make(most); w != (api.WireWriter{Most: most}) {
			t.Errorf("Make(%d) = %+v", most, w)
		}
	}
	for _, most := range []int{-1, 20001, 65536, math.MaxInt, math.MinInt} {
		if w := wire.Make(most); w != spoiltWriter {
			t.Errorf("Make(%d) = %+v", most, w)
		}
	}
}

// TestP2_4Put: numbers of each size, and those that do not fit into one.
func TestP2_4Put(t *testing.T) {
	for _, c := range []struct {
		size  int
		n     uint64
		bytes string
		e     api.Errno
	}{
		{1, 0, "\x00", api.OK}, {1, 128, "\x80", api.OK}, {1, 255, "\xff", api.OK}, {1, 256, "", api.ErrRange}, {1, math.MaxUint64, "", api.ErrRange}, {1, 1 << 32, "", api.ErrRange},
		{2, 0, "\x00\x00", api.OK}, {2, 258, "\x01\x02", api.OK}, {2, 65535, "\xff\xff", api.OK}, {2, 65536, "", api.ErrRange}, {2, 1 << 63, "", api.ErrRange},
		{4, 0, "\x00\x00\x00\x00", api.OK}, {4, 0x01020304, "\x01\x02\x03\x04", api.OK}, {4, 1<<32 - 1, "\xff\xff\xff\xff", api.OK}, {4, 1 << 32, "", api.ErrRange}, {4, math.MaxUint64, "", api.ErrRange},
		{8, 0, "\x00\x00\x00\x00\x00\x00\x00\x00", api.OK}, {8, 0x0102030405060708, "\x01\x02\x03\x04\x05\x06\x07\x08", api.OK}, {8, 1 << 63, "\x80\x00\x00\x00\x00\x00\x00\x00", api.OK}, {8, math.MaxUint64, "\xff\xff\xff\xff\xff\xff\xff\xff", api.OK},
		{0, 0, "", api.ErrRange}, {-1, 0, "", api.ErrRange}, {3, 0, "", api.ErrRange}, {5, 0, "", api.ErrRange}, {6, 0, "", api.ErrRange}, {7, 0, "", api.ErrRange}, {9, 0, "", api.ErrRange}, {16, 0, "", api.ErrRange}, {1 << 32, 0, "", api.ErrRange}, {math.MaxInt, 0, "", api.ErrRange}, {math.MinInt, 0, "", api.ErrRange},
	} {
		for _, before := range []string{"", "xy"} {
			written := api.WireWriter{S: before + c.bytes, Most: 10, Err: c.e}
			if w := wire.Put(api.WireWriter{S: before, Most: 10}, c.size, c.n); w != written {
				t.Errorf("Put behind %q, %d, %d = %+v", before, c.size, c.n, w)
			}
			full := api.WireWriter{S: before, Most: len(before), Err: api.ErrLong}
			if c.e != api.OK {
				full.Err = c.e
			}
			if w := wire.Put(api.WireWriter{S: before, Most: len(before)}, c.size, c.n); w != full {
				t.Errorf("Put behind %q, %d, %d, where nothing fits = %+v", before, c.size, c.n, w)
			}
		}
	}
}

// TestP2_4Int64: 8 bytes in two's complement, if they fit.
func TestP2_4Int64(t *testing.T) {
	for n, bytes := range map[int64]string{0: "\x00\x00\x00\x00\x00\x00\x00\x00", 258: "\x00\x00\x00\x00\x00\x00\x01\x02", math.MaxInt64: "\x7f\xff\xff\xff\xff\xff\xff\xff", math.MinInt64: "\x80\x00\x00\x00\x00\x00\x00\x00", -1: "\xff\xff\xff\xff\xff\xff\xff\xff", -258: "\xff\xff\xff\xff\xff\xff\xfe\xfe"} {
		if w := wire.PutInt64(api.WireWriter{S: "x", Most: 9}, n); w != (api.WireWriter{S: "x" + bytes, Most: 9}) {
			t.Errorf("PutInt64(%d) = %+v", n, w)
		}
		if w := wire.PutInt64(api.WireWriter{S: "x", Most: 8}, n); w != (api.WireWriter{S: "x", Most: 8, Err: api.ErrLong}) {
			t.Errorf("PutInt64(%d) = %+v", n, w)
		}
	}
}

// TestP2_4Add: all strings or none, up to the last byte that fits.
func TestP2_4Add(t *testing.T) {
	for _, c := range []struct {
		l    []string
		want string
		e    api.Errno
	}{
		{nil, "x", api.OK}, {[]string{""}, "x", api.OK}, {[]string{"ab"}, "xab", api.OK}, {[]string{"a", "", "b", "\x00"}, "xab\x00", api.OK}, {[]string{"abcd"}, "xabcd", api.OK}, {[]string{"ab", "cd", ""}, "xabcd", api.OK},
		{[]string{"abcde"}, "x", api.ErrLong}, {[]string{"ab", "cd", "e"}, "x", api.ErrLong}, {[]string{"abcde", ""}, "x", api.ErrLong}, {[]string{"", "abcde"}, "x", api.ErrLong}, {[]string{strings.Repeat("a", 1<<20), "b"}, "x", api.ErrLong}, {[]string{"b", strings.Repeat("a", 1<<20)}, "x", api.ErrLong},
	} {
		before := slices.Clone(c.l)
		if w := wire.Add(api.WireWriter{S: "x", Most: 5}, c.l...); w != (api.WireWriter{S: c.want, Most: 5, Err: c.e}) {
			t.Errorf("Add(%q) = %+v", c.l, w)
		}
		if !slices.Equal(c.l, before) {
			t.Errorf("Add changed %q to %q", before, c.l)
		}
	}
	many := make([]string, 1<<16)
	if w := wire.Add(wire.Make(0), many...); w != wire.Make(0) {
		t.Errorf("many empty strings: %+v", w)
	}
}

// TestP2_4Huge: strings with more bytes than a string may have are not put together.
func TestP2_4Huge(t *testing.T) {
	many := slices.Repeat([]string{strings.Repeat("a", 1<<20)}, 1<<20)
	if w := wire.Add(wire.Make(20000), many...); w != (api.WireWriter{Most: 20000, Err: api.ErrLong}) {
		t.Errorf("2^40 bytes: %d, %v", len(w.S), w.Err)
	}
}

// TestP2_4Most: a writer takes 20,000 bytes and not one more.
func TestP2_4Most(t *testing.T) {
	full := strings.Repeat("a", 20000)
	w := wire.Add(wire.Make(20000), full)
	if s, e := wire.Done(w); s != full || e != api.OK {
		t.Errorf("%d bytes, %v", len(s), e)
	}
	if w = wire.Put(w, 1, 0); w != (api.WireWriter{S: full, Most: 20000, Err: api.ErrLong}) {
		t.Errorf("one more: %d bytes, %v", len(w.S), w.Err)
	}
	if w = wire.Add(wire.Make(20000), full, "b"); w != (api.WireWriter{Most: 20000, Err: api.ErrLong}) {
		t.Errorf("20,001 bytes: %d bytes, %v", len(w.S), w.Err)
	}
}

// TestP2_4Sized: a string behind its length, both or none; ErrRange for more than 65,535 bytes.
func TestP2_4Sized(t *testing.T) {
	long := strings.Repeat("é", 150)
	for _, c := range []struct {
		most int
		s    string
		want api.WireWriter
	}{
		{2, "", api.WireWriter{S: "\x00\x00", Most: 2}}, {5, "abc", api.WireWriter{S: "\x00\x03abc", Most: 5}}, {9, "\xff\x00", api.WireWriter{S: "\x00\x02\xff\x00", Most: 9}}, {302, long, api.WireWriter{S: "\x01\x2c" + long, Most: 302}},
		{1, "", api.WireWriter{Most: 1, Err: api.ErrLong}}, {4, "abc", api.WireWriter{Most: 4, Err: api.ErrLong}}, {2, "a", api.WireWriter{Most: 2, Err: api.ErrLong}}, {301, long, api.WireWriter{Most: 301, Err: api.ErrLong}},
		{20000, strings.Repeat("a", 65535), api.WireWriter{Most: 20000, Err: api.ErrLong}}, {20000, strings.Repeat("a", 65536), api.WireWriter{Most: 20000, Err: api.ErrRange}}, {0, strings.Repeat("a", 1<<20), api.WireWriter{Err: api.ErrRange}},
	} {
		if w := wire.PutSized(wire.Make(c.most), c.s); w != c.want {
			t.Errorf("PutSized of %d bytes, most %d: %d bytes, %v", len(c.s), c.most, len(w.S), w.Err)
		}
	}
	if w := wire.PutSized(api.WireWriter{S: "x", Most: 4}, "ab"); w != (api.WireWriter{S: "x", Most: 4, Err: api.ErrLong}) {
		t.Errorf("behind a byte: %+v", w)
	}
	if s, e := wire.Done(wire.PutSized(wire.Make(20000), strings.Repeat("a", 19998))); len(s) != 20000 || s[:3] != "\x4e\x1ea" || e != api.OK {
		t.Errorf("19,998 bytes: %d bytes, %v", len(s), e)
	}
}

// TestP2_4Done: what was written, or the first error alone.
func TestP2_4Done(t *testing.T) {
	w := wire.Add(wire.Make(4), "ab")
	if s, e := wire.Done(w); s != "ab" || e != api.OK {
		t.Errorf("%q, %v", s, e)
	}
	w = wire.Put(wire.Put(wire.Put(w, 4, 1), 3, 1), 1, 1)
	if s, e := wire.Done(w); s != "" || e != api.ErrLong || w.S != "ab" {
		t.Errorf("%q, %v, %q", s, e, w.S)
	}
	w = wire.Put(wire.Put(wire.Make(0), 3, 1), 4, 1)
	if s, e := wire.Done(w); s != "" || e != api.ErrRange {
		t.Errorf("%q, %v", s, e)
	}
}

package event_test

import (
	"strings"
	"testing"

	"partywall/api"
	"partywall/event"
)

// bigEndian returns the 8 bytes of n, the highest one first, one by one.
func bigEndian(n uint64) string {
	return string([]byte{byte(n >> 56), byte(n >> 48), byte(n >> 40), byte(n >> 32), byte(n >> 24), byte(n >> 16), byte(n >> 8), byte(n)})
}

// TestP3_1Bytes: the label, the kind and the value, and that they are parsed.
func TestP3_1Bytes(t *testing.T) {
	for _, e := range events() {
		want := bigEndian(e.Label) + string([]byte{byte(e.Kind)}) + bigEndian(uint64(e.Value))
		if s, err := event.Bytes(e); s != want || err != api.OK {
			t.Errorf("Bytes(%v) = %q, %v", e, s, err)
		}
		if got, f := event.Parse(want); got != e || f != (api.Fault{}) {
			t.Errorf("Parse(%q) = %v, %v", want, got, f)
		}
	}
}

// TestP3_1Literal: some events whose bytes are written out.
func TestP3_1Literal(t *testing.T) {
	for _, c := range []struct {
		e     api.Event
		bytes string
	}{
		{api.Event{}, "\x00\x00\x00\x00\x00\x00\x00\x00\x00\x00\x00\x00\x00\x00\x00\x00\x00"},
		{api.Event{Label: 0x0102030405060708, Kind: 25, Value: 0x1112131415161718}, "\x01\x02\x03\x04\x05\x06\x07\x08\x19\x11\x12\x13\x14\x15\x16\x17\x18"},
		{api.Event{Label: all, Kind: 1, Value: -1}, "\xff\xff\xff\xff\xff\xff\xff\xff\x01\xff\xff\xff\xff\xff\xff\xff\xff"},
		{api.Event{Label: high, Kind: 16, Value: -1 << 63}, "\x80\x00\x00\x00\x00\x00\x00\x00\x10\x80\x00\x00\x00\x00\x00\x00\x00"},
		{api.Event{Label: 1, Kind: 0, Value: 1<<63 - 1}, "\x00\x00\x00\x00\x00\x00\x00\x01\x00\x7f\xff\xff\xff\xff\xff\xff\xff"},
	} {
		if s, err := event.Bytes(c.e); s != c.bytes || err != api.OK {
			t.Errorf("Bytes(%v) = %q, %v", c.e, s, err)
		}
		if e, f := event.Parse(c.bytes); e != c.e || f != (api.Fault{}) {
			t.Errorf("Parse(%q) = %v, %v", c.bytes, e, f)
		}
	}
}

// TestP3_1NotSound: events that are not sound have no bytes.
func TestP3_1NotSound(t *testing.T) {
	for _, kind := range notKinds() {
		for _, l := range labels() {
			for _, v := range values() {
				if s, err := event.Bytes(api.Event{Label: l, Kind: kind, Value: v}); s != "" || err != api.ErrKind {
					t.Errorf("Bytes of kind %d, label %d, value %d: %q, %v", kind, l, v, s, err)
				}
			}
		}
	}
}

// refused checks that s has this fault and gives no event.
func refused(t *testing.T, s string, want api.Fault) {
	t.Helper()
	if e, f := event.Parse(s); e != (api.Event{}) || f != want {
		t.Errorf("Parse(%q) = %v, %v, not %v", s, e, f, want)
	}
}

// TestP3_1Short: the first field that is not whole, wherever the bytes end.
func TestP3_1Short(t *testing.T) {
	for _, whole := range []string{"\x00\x00\x00\x00\x00\x00\x01\x01\x02\xff\xff\xff\xff\xff\xff\xff\xfe", strings.Repeat("\x00", 17), strings.Repeat("\x19", 17)} {
		for n := range 17 {
			field := 0
			if n >= 8 {
				field = 8
			}
			if n >= 9 {
				field = 9
			}
			refused(t, whole[:n], fault(api.ErrShort, field))
		}
	}
	for n := range 8 {
		// The bytes of a label that is not whole are no kind.
		refused(t, strings.Repeat("\xff", n), fault(api.ErrShort, 0))
	}
}

// TestP3_1Kind: each byte that is no kind is refused at 8, however many bytes stand behind it.
func TestP3_1Kind(t *testing.T) {
	for b := range 256 {
		kind := string([]byte{byte(b)})
		for _, n := range []int{0, 1, 7, 8, 9, 10, 300} {
			s := "\x01\x02\x03\x04\x05\x06\x07\xff" + kind + strings.Repeat("\x00", n)
			switch {
			case b > 25:
				refused(t, s, fault(api.ErrKind, 8))
			case n < 8:
				refused(t, s, fault(api.ErrShort, 9))
			case n > 8:
				refused(t, s, fault(api.ErrLong, 17))
			default:
				if e, f := event.Parse(s); e != (api.Event{Label: 0x01020304050607ff, Kind: b}) || f != (api.Fault{}) {
					t.Errorf("Parse(%q) = %v, %v", s, e, f)
				}
			}
		}
	}
}

// TestP3_1Long: ErrLong at 17, whatever stands there.
func TestP3_1Long(t *testing.T) {
	for _, e := range events() {
		s, _ := event.Bytes(e)
		for _, more := range []string{"\x00", "\xff", s, s[:8]} {
			refused(t, s+more, fault(api.ErrLong, 17))
		}
	}
	refused(t, strings.Repeat("\x00", 1<<20), fault(api.ErrLong, 17))
}

// TestP3_5Bytes: events are parsed from their bytes, and different ones have different bytes.
func TestP3_5Bytes(t *testing.T) {
	of := map[string]api.Event{}
	for _, e := range events() {
		s, err := event.Bytes(e)
		if len(s) != 17 || err != api.OK {
			t.Errorf("Bytes(%v) = %q, %v", e, s, err)
		}
		if got, f := event.Parse(s); got != e || f != (api.Fault{}) {
			t.Errorf("Parse of the bytes of %v: %v, %v", e, got, f)
		}
		if x, ok := of[s]; ok {
			t.Errorf("%v and %v have the bytes %q", e, x, s)
		}
		of[s] = e
	}
}

// TestP3_5Back: the bytes of what is parsed are what was parsed, for each byte in each place.
func TestP3_5Back(t *testing.T) {
	for _, base := range []string{strings.Repeat("\x00", 17), strings.Repeat("\xff", 8) + "\x19" + strings.Repeat("\xff", 8), "\x01\x80\xfe\x7f\x10\x00\x02\x40\x05\x81\x01\xfe\x7f\x10\x00\x02\x40"} {
		for i := range 17 {
			for b := range 256 {
				s := base[:i] + string([]byte{byte(b)}) + base[i+1:]
				if i == 8 && b > 25 {
					refused(t, s, fault(api.ErrKind, 8))
					continue
				}
				e, f := event.Parse(s)
				if got, err := event.Bytes(e); got != s || err != api.OK || f != (api.Fault{}) {
					t.Errorf("Parse(%q) = %v, %v, with the bytes %q, %v", s, e, f, got, err)
				}
			}
		}
	}
}

package event_test

import (
	"math"
	"testing"

	"partywall/api"
	"partywall/event"
)

// most is MaxCount, written out.
const most = uint64(1099511627776)

const (
	all  = ^uint64(0)
	high = uint64(1) << 63
)

// alphabet are the letters, each at its number.
const alphabet = "ABCDEFGHIJKLMNOPQRSTUVWXYZ"

// notKinds are numbers that are no kinds.
func notKinds() []int {
	return []int{-1, 26, 27, 65, 90, 255, 256, 257, -26, 1 << 32, 1<<32 + 1, math.MaxInt, math.MinInt, math.MinInt + 1}
}

// notCounts are numbers that are not from 1 to MaxCount.
func notCounts() []uint64 {
	return []uint64{0, most + 1, most + 2, most << 1, most<<1 + 1, high, high + 1, all}
}

// counts are numbers from 1 to MaxCount.
func counts() []uint64 {
	return []uint64{1, 2, 9, 10, 255, 256, 1<<32 - 1, 1 << 32, 1<<32 + 1, most - 1, most}
}

// labels are labels with categories at both ends and in all bytes.
func labels() []uint64 {
	return []uint64{0, 1, 2, 3, 5, 255, 256, 257, 1 << 31, 1 << 32, 0x0102030405060708, 0xfedcba9876543210, high - 1, high, high | 1, all - 1, all}
}

// values are values of both signs and all magnitudes.
func values() []int64 {
	return []int64{0, 1, -1, 2, -2, 9, 10, -10, 100, 127, 128, -128, -129, 255, 256, -256, 65535, -65536, math.MaxInt32, math.MinInt32, 1 << 32, -1 << 32, 0x0102030405060708, -0x0102030405060708, math.MaxInt64 - 1, math.MaxInt64, math.MinInt64 + 1, math.MinInt64}
}

// events are sound events with these labels and values, and with all kinds.
func events() []api.Event {
	var l []api.Event
	for _, x := range labels() {
		for kind := range 26 {
			for _, v := range values() {
				l = append(l, api.Event{Label: x, Kind: kind, Value: v})
			}
		}
	}
	return l
}

func fault(e api.Errno, at int) api.Fault { return api.Fault{Err: e, At: at} }

// TestP3_1Check: the kind alone says whether an event is sound.
func TestP3_1Check(t *testing.T) {
	for _, e := range events() {
		if err := event.Check(e); err != api.OK {
			t.Errorf("Check(%v) = %v", e, err)
		}
	}
	for _, kind := range notKinds() {
		for _, l := range labels() {
			for _, v := range values() {
				if err := event.Check(api.Event{Label: l, Kind: kind, Value: v}); err != api.ErrKind {
					t.Errorf("Check of kind %d, label %d, value %d: %v", kind, l, v, err)
				}
			}
		}
	}
}

// TestP3_2Letter: the letters of the kinds from 0 to 25; ErrKind for all other numbers.
func TestP3_2Letter(t *testing.T) {
	for kind := range 26 {
		if s, e := event.Letter(kind); s != alphabet[kind:kind+1] || e != api.OK {
			t.Errorf("Letter(%d) = %q, %v", kind, s, e)
		}
	}
	for kind := -300; kind <= 300; kind++ {
		if kind >= 0 && kind < 26 {
			continue
		}
		if s, e := event.Letter(kind); s != "" || e != api.ErrKind {
			t.Errorf("Letter(%d) = %q, %v", kind, s, e)
		}
	}
	for _, kind := range notKinds() {
		if s, e := event.Letter(kind); s != "" || e != api.ErrKind {
			t.Errorf("Letter(%d) = %q, %v", kind, s, e)
		}
	}
}

// TestP3_2Kind: the kinds of the letters; ErrKind for all other strings.
func TestP3_2Kind(t *testing.T) {
	for kind := range 26 {
		if got, e := event.Kind(alphabet[kind : kind+1]); got != kind || e != api.OK {
			t.Errorf("Kind(%q) = %d, %v", alphabet[kind:kind+1], got, e)
		}
	}
	wrong := []string{"", "AA", "AB", "ZZ", "A ", " A", "A\x00", "\x00A", "Z\n", "Bx", "xB", "À", "Ａ", "Á", "ſ", "\u212a", "\ufffd", alphabet, alphabet[1:], "A{", "1", "25"}
	for b := range 256 {
		if b < 'A' || b > 'Z' {
			wrong = append(wrong, string([]byte{byte(b)}), string(rune(b)))
		}
	}
	for _, s := range wrong {
		if got, e := event.Kind(s); got != 0 || e != api.ErrKind {
			t.Errorf("Kind(%q) = %d, %v", s, got, e)
		}
	}
}

// stored returns a stored event that is sound, as changed by change.
func stored(change func(s *api.Stored)) api.Stored {
	s := api.Stored{Id: api.Id{Label: 5, No: 7}, Order: 9, Tick: 3, Kind: 2, Value: -4}
	change(&s)
	return s
}

// TestP3_4Sound: each part up to both ends of its range.
func TestP3_4Sound(t *testing.T) {
	check := func(want api.Errno, change func(s *api.Stored)) {
		t.Helper()
		s := stored(change)
		if e := event.Sound(s); e != want {
			t.Errorf("Sound(%+v) = %v, not %v", s, e, want)
		}
	}
	check(api.OK, func(s *api.Stored) {})
	check(api.OK, func(s *api.Stored) { *s = api.Stored{Id: api.Id{No: 1}, Order: 1} })
	check(api.OK, func(s *api.Stored) { s.Tick = 0 })
	for _, n := range counts() {
		check(api.OK, func(s *api.Stored) { s.Id.No = n })
		check(api.OK, func(s *api.Stored) { s.Order = n })
		check(api.OK, func(s *api.Stored) { s.Tick = n })
	}
	for _, n := range notCounts() {
		check(api.ErrRange, func(s *api.Stored) { s.Id.No = n })
		check(api.ErrRange, func(s *api.Stored) { s.Order = n })
		if n != 0 {
			check(api.ErrRange, func(s *api.Stored) { s.Tick = n })
		}
	}
	for kind := range 26 {
		check(api.OK, func(s *api.Stored) { s.Kind = kind })
	}
	for _, kind := range notKinds() {
		check(api.ErrKind, func(s *api.Stored) { s.Kind = kind })
	}
	for _, l := range labels() {
		check(api.OK, func(s *api.Stored) { s.Id.Label = l })
	}
	for _, v := range values() {
		check(api.OK, func(s *api.Stored) { s.Value = v })
	}
}

// TestP3_4SoundFirst: if several parts are wrong, the Id comes first, then the kind, then Order and Tick.
func TestP3_4SoundFirst(t *testing.T) {
	for _, n := range notCounts() {
		for _, kind := range notKinds() {
			for _, s := range []api.Stored{
				stored(func(s *api.Stored) { s.Id.No, s.Kind = n, kind }),
				stored(func(s *api.Stored) { s.Id.No, s.Kind, s.Order = n, kind, 0 }),
				stored(func(s *api.Stored) { s.Id.No, s.Kind, s.Tick = n, kind, most+1 }),
			} {
				if e := event.Sound(s); e != api.ErrRange {
					t.Errorf("Sound(%+v) = %v", s, e)
				}
			}
			for _, s := range []api.Stored{
				stored(func(s *api.Stored) { s.Kind, s.Order = kind, n }),
				stored(func(s *api.Stored) { s.Kind, s.Tick = kind, n|1<<41 }),
				stored(func(s *api.Stored) { s.Kind, s.Order, s.Tick = kind, n, most+1 }),
			} {
				if e := event.Sound(s); e != api.ErrKind {
					t.Errorf("Sound(%+v) = %v", s, e)
				}
			}
		}
	}
}

// TestP3_4Of: the label, kind and value of any stored event, also of one that is not sound.
func TestP3_4Of(t *testing.T) {
	kinds := notKinds()
	for kind := range 26 {
		kinds = append(kinds, kind)
	}
	for _, l := range labels() {
		for _, kind := range kinds {
			for _, v := range values() {
				for _, n := range []uint64{0, 1, most, all} {
					s := api.Stored{Id: api.Id{Label: l, No: n}, Order: n, Tick: all - n, Kind: kind, Value: v}
					if e := event.Of(s); e != (api.Event{Label: l, Kind: kind, Value: v}) {
						t.Errorf("Of(%+v) = %+v", s, e)
					}
				}
			}
		}
	}
}

// TestP3_4Store: the stored event with all its parts, up to both ends of their ranges.
func TestP3_4Store(t *testing.T) {
	numbers := counts()
	for i, e := range events() {
		no, order, tick := numbers[i%len(numbers)], numbers[i/7%len(numbers)], numbers[i/3%len(numbers)]
		if i%5 == 0 {
			tick = 0
		}
		want := api.Stored{Id: api.Id{Label: e.Label, No: no}, Order: order, Tick: tick, Kind: e.Kind, Value: e.Value}
		if s, err := event.Store(e, no, order, tick); s != want || err != api.OK {
			t.Errorf("Store(%v, %d, %d, %d) = %+v, %v", e, no, order, tick, s, err)
		}
	}
}

// TestP3_4StoreFaults: the kind comes first here, then the number, Order and Tick, and no part is given with an error.
func TestP3_4StoreFaults(t *testing.T) {
	e := api.Event{Label: 5, Kind: 2, Value: -4}
	check := func(want api.Errno, e api.Event, no, order, tick uint64) {
		t.Helper()
		if s, err := event.Store(e, no, order, tick); s != (api.Stored{}) || err != want {
			t.Errorf("Store(%v, %d, %d, %d) = %+v, %v, not %v", e, no, order, tick, s, err, want)
		}
	}
	for _, n := range notCounts() {
		check(api.ErrRange, e, n, 1, 0)
		check(api.ErrRange, e, 1, n, 0)
		check(api.ErrRange, e, n, n, n)
		if n != 0 {
			check(api.ErrRange, e, 1, 1, n)
		}
		for _, kind := range notKinds() {
			wrong := api.Event{Label: 5, Kind: kind, Value: -4}
			check(api.ErrKind, wrong, 1, 1, 0)
			check(api.ErrKind, wrong, n, 1, 0)
			check(api.ErrKind, wrong, 1, n, 0)
			check(api.ErrKind, wrong, 1, 1, n)
			check(api.ErrKind, wrong, n, n, n)
		}
	}
}

// TestP3_7OfStore: Of of Store is the event, whatever number, Order and Tick it has.
func TestP3_7OfStore(t *testing.T) {
	for _, e := range events() {
		for _, n := range counts() {
			s, err := event.Store(e, n, most+1-n, n-1)
			if got := event.Of(s); got != e || err != api.OK || event.Sound(s) != api.OK {
				t.Errorf("Store(%v, %d, ..) = %+v, %v, and this is of %v", e, n, s, err, got)
			}
		}
	}
}

package lattice_test

import (
	"slices"
	"testing"

	"partywall/api"
	"partywall/lattice"
)

// partJoins returns the joins of all parts of a small family but the empty one, part by part.
func partJoins(l []uint64) []uint64 {
	var joins []uint64
	for part := uint64(1); part < 1<<len(l); part++ {
		var join uint64
		for i, x := range l {
			if part>>i&1 == 1 {
				join |= x
			}
		}
		joins = append(joins, join)
	}
	slices.Sort(joins)
	return slices.Compact(joins)
}

// TestP4_4Closure: the joins of all parts, each once, ascending as numbers.
func TestP4_4Closure(t *testing.T) {
	for _, group := range []func(func([]uint64) bool){small, mixed} {
		for l := range group {
			if got, e := lattice.Closure(l); !slices.Equal(got, partJoins(l)) || e != api.OK {
				t.Fatalf("Closure(%v) = %v, %v", l, got, e)
			}
		}
	}
	for _, c := range []struct{ l, want []uint64 }{
		{nil, nil}, {[]uint64{}, nil}, {[]uint64{none}, []uint64{none}}, {[]uint64{high}, []uint64{high}}, {[]uint64{1, 1}, []uint64{1}}, {[]uint64{all, none, 1}, []uint64{none, 1, all}}, {[]uint64{high, 1}, []uint64{1, high, high | 1}}, {[]uint64{5, 3}, []uint64{3, 5, 7}},
		{ladder(64), ladder(64)}, {slices.Repeat([]uint64{5, 6}, 32), []uint64{5, 6, 7}},
	} {
		if got, e := lattice.Closure(c.l); !slices.Equal(got, c.want) || e != api.OK {
			t.Errorf("Closure(%v) = %v, %v", c.l, got, e)
		}
	}
}

// TestP4_4Full: a closure has at most 256 labels, also where the family has few.
func TestP4_4Full(t *testing.T) {
	for _, c := range []struct {
		l    []uint64
		want int
	}{
		{singles(8), 255},
		{append(singles(8), none), 256},
		{append(singles(8), 511), 256},
		{append([]uint64{none}, singles(8)...), 256},
		{append(slices.Repeat([]uint64{none, 3, 255}, 18), singles(8)...), 256},
		// 2^7 joins with and without the next two categories, and those alone
		{append(singles(7), 384, none), 256},
		{append(singles(8), none, 511), 0},
		{append([]uint64{none, 511}, singles(8)...), 0},
		{append(singles(8), high, none), 0},
		{singles(9), 0}, {singles(16), 0}, {singles(33), 0}, {singles(64), 0},
		{append(slices.Repeat([]uint64{all}, 55), singles(9)...), 0},
		{append(ladder(64)[:56], singles(8)...), 0},
	} {
		got, e := lattice.Closure(c.l)
		if c.want == 0 && (len(got) != 0 || e != api.ErrFull) || c.want != 0 && (len(got) != c.want || e != api.OK) {
			t.Errorf("Closure(%v) has %d labels, %v, not %d", c.l, len(got), e, c.want)
		}
	}
}

// firstCover returns the join of the shortest beginning of the family that x is at most, and whether there is one.
func firstCover(l []uint64, x uint64) (uint64, bool) {
	for n := range len(l) + 1 {
		var join uint64
		for _, y := range l[:n] {
			join |= y
		}
		if within(x, join) {
			return join, true
		}
	}
	return 0, false
}

// TestP4_4Cover: the join of the first labels of the family, as few as are needed; ErrLabel unless all of them are enough.
func TestP4_4Cover(t *testing.T) {
	for l := range families {
		for _, x := range samples() {
			want, covered := firstCover(l, x)
			got, e := lattice.Cover(l, x)
			if got != want || covered != (e == api.OK) || !covered && e != api.ErrLabel {
				t.Fatalf("Cover(%v, %d) = %d, %v", l, x, got, e)
			}
		}
	}
	for _, c := range []struct {
		l       []uint64
		x, want uint64
		e       api.Errno
	}{
		{nil, none, none, api.OK}, {nil, 1, 0, api.ErrLabel}, {[]uint64{6}, none, none, api.OK}, {[]uint64{6, 1}, 2, 6, api.OK}, {[]uint64{6, 1}, 1, 7, api.OK}, {[]uint64{none, 1, 2}, 1, 1, api.OK}, {[]uint64{none}, none, none, api.OK},
		{[]uint64{high, 1}, high, high, api.OK}, {[]uint64{1, high, 2}, high, high | 1, api.OK}, {[]uint64{1, 2}, 5, 0, api.ErrLabel}, {[]uint64{1, 2}, all, 0, api.ErrLabel},
		{singles(64), all, all, api.OK}, {singles(64), high, all, api.OK}, {singles(64), 1 << 62, all >> 1, api.OK}, {singles(63), high, 0, api.ErrLabel}, {ladder(64), 1 << 9, 1023, api.OK},
	} {
		if got, e := lattice.Cover(c.l, c.x); got != c.want || e != c.e {
			t.Errorf("Cover(%v, %d) = %d, %v", c.l, c.x, got, e)
		}
	}
}

package lattice_test

import (
	"slices"
	"testing"

	"partywall/api"
	"partywall/lattice"
)

// isChain says whether any two labels can be compared, pair by pair.
func isChain(l []uint64) bool {
	for _, a := range l {
		for _, b := range l {
			if !within(a, b) && !within(b, a) {
				return false
			}
		}
	}
	return true
}

// longest returns how many labels the longest chain has that goes up from a label.
func longest(l []uint64, from uint64, known map[uint64]int) int {
	if n, ok := known[from]; ok {
		return n
	}
	n := 1
	for _, x := range l {
		if under(from, x) {
			n = max(n, 1+longest(l, x, known))
		}
	}
	known[from] = n
	return n
}

// TestP4_3Chain: whether any two labels of a family are comparable.
func TestP4_3Chain(t *testing.T) {
	for l := range families {
		if got, e := lattice.Chain(l); got != isChain(l) || e != api.OK {
			t.Fatalf("Chain(%v) = %v, %v", l, got, e)
		}
	}
	for _, c := range []struct {
		l    []uint64
		want bool
	}{
		{nil, true}, {[]uint64{}, true}, {[]uint64{6}, true}, {[]uint64{none}, true}, {[]uint64{6, 6}, true}, {[]uint64{7, none, 3}, true}, {[]uint64{all, high, high | 1}, true},
		{[]uint64{1, 2}, false}, {[]uint64{1, 3, 5}, false}, {[]uint64{1, 6}, false}, {[]uint64{6, 1}, false}, {[]uint64{high, all >> 1}, false}, {[]uint64{none, 1, all, high}, false}, {append(ladder(63), high), false}, {append(ladder(63), all), true},
	} {
		if got, e := lattice.Chain(c.l); got != c.want || e != api.OK {
			t.Errorf("Chain(%v) = %v, %v", c.l, got, e)
		}
	}
}

// TestP4_3Height: how many labels the longest chain has in which each is less than the next.
func TestP4_3Height(t *testing.T) {
	for l := range families {
		want, known := 0, map[uint64]int{}
		for _, x := range l {
			want = max(want, longest(l, x, known))
		}
		if got, e := lattice.Height(l); got != want || e != api.OK {
			t.Fatalf("Height(%v) = %d, %v, not %d", l, got, e, want)
		}
	}
	scattered := ladder(64)
	slices.SortFunc(scattered, func(a, b uint64) int { return int(a*37%101) - int(b*37%101) })
	for _, c := range []struct {
		l    []uint64
		want int
	}{
		{nil, 0}, {[]uint64{}, 0}, {[]uint64{none}, 1}, {[]uint64{all}, 1}, {[]uint64{6, 6, 6}, 1}, {[]uint64{1, 2}, 1}, {[]uint64{1, 6}, 1}, {[]uint64{all, none}, 2}, {[]uint64{3, 1, 2, none}, 3}, {[]uint64{high, high | 1, 2, 6, 14, 1}, 3},
		{singles(64), 1}, {append(singles(63), none), 2}, {ladder(64), 64}, {scattered, 64}, {append(ladder(63), none), 64}, {slices.Repeat([]uint64{1, 3}, 32), 2},
	} {
		if got, e := lattice.Height(c.l); got != c.want || e != api.OK {
			t.Errorf("Height(%v) = %d, %v", c.l, got, e)
		}
	}
}

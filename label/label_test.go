package label_test

import (
	"math"
	"slices"
	"testing"

	"partywall/api"
	"partywall/label"
)

const (
	none = uint64(0)
	all  = ^uint64(0)
	high = uint64(1) << 63
)

// samples are all labels with categories of a few, among them those at the ends, and some that are full or mixed.
func samples() []uint64 {
	var l []uint64
	for i := range uint64(32) {
		l = append(l, i&1|i>>1&1<<1|i>>2&1<<31|i>>3&1<<32|i>>4&1<<63)
	}
	return append(l, all, all-1, all>>1, 0x5555555555555555, 0xaaaaaaaaaaaaaaaa, 0x0123456789abcdef)
}

// outside are numbers that are no categories.
func outside() []int {
	return []int{-1, 64, 65, 127, 128, -64, math.MaxInt, math.MinInt}
}

// TestP1_1Of: the label with these categories, each named any number of times; ErrRange otherwise.
func TestP1_1Of(t *testing.T) {
	for _, c := range []struct {
		in   []int
		want uint64
	}{
		{nil, none}, {[]int{}, none}, {[]int{0}, 1}, {[]int{0, 2, 2}, 5}, {[]int{2, 0}, 5}, {[]int{63}, high}, {[]int{63, 0, 63, 0}, high | 1}, {[]int{31, 32}, 3 << 31},
	} {
		if got, e := label.Of(c.in...); got != c.want || e != api.OK {
			t.Errorf("Of(%v) = %d, %v", c.in, got, e)
		}
	}
	for i := range 64 {
		if got, e := label.Of(i); got != 1<<i || e != api.OK {
			t.Errorf("Of(%d) = %d, %v", i, got, e)
		}
	}
	for _, x := range outside() {
		for _, in := range [][]int{{x}, {x, 1}, {1, x}, {0, x, 63}} {
			if got, e := label.Of(in...); got != 0 || e != api.ErrRange {
				t.Errorf("Of(%v) = %d, %v", in, got, e)
			}
		}
	}
}

// TestP1_1Has: whether the label has the category; ErrRange if it is none.
func TestP1_1Has(t *testing.T) {
	for _, l := range samples() {
		for i := range 64 {
			if got, e := label.Has(l, i); got != (l&(1<<i) != 0) || e != api.OK {
				t.Errorf("Has(%d, %d) = %v, %v", l, i, got, e)
			}
		}
		for _, x := range outside() {
			if got, e := label.Has(l, x); got || e != api.ErrRange {
				t.Errorf("Has(%d, %d) = %v, %v", l, x, got, e)
			}
		}
	}
}

// TestP1_1List: List, Count and Least agree with the bits of a label, and Least has none for no categories.
func TestP1_1List(t *testing.T) {
	for _, l := range samples() {
		var want []int
		for i := range 64 {
			if l&(1<<i) != 0 {
				want = append(want, i)
			}
		}
		if got := label.List(l); !slices.Equal(got, want) {
			t.Errorf("List(%d) = %v", l, got)
		}
		if got := label.Count(l); got != len(want) {
			t.Errorf("Count(%d) = %d", l, got)
		}
		least, e := label.Least(l)
		switch {
		case l == 0 && (least != 0 || e != api.ErrRange):
			t.Errorf("Least(0) = %d, %v", least, e)
		case l != 0 && (least != want[0] || e != api.OK):
			t.Errorf("Least(%d) = %d, %v", l, least, e)
		}
	}
}

// TestP1_2Order: Below and Comparable, by their definition with categories.
func TestP1_2Order(t *testing.T) {
	for _, a := range samples() {
		for _, b := range samples() {
			ab, ba := within(a, b), within(b, a)
			if got := label.Below(a, b); got != ab {
				t.Errorf("Below(%d, %d) = %v", a, b, got)
			}
			if got := label.Comparable(a, b); got != (ab || ba) {
				t.Errorf("Comparable(%d, %d) = %v", a, b, got)
			}
		}
	}
}

// within says whether all categories of a are in b, one by one.
func within(a, b uint64) bool {
	for i := range 64 {
		if a>>i&1 == 1 && b>>i&1 == 0 {
			return false
		}
	}
	return true
}

// TestP1_2Joins: Join, Meet and Without, of none, one and several labels.
func TestP1_2Joins(t *testing.T) {
	for _, c := range []struct {
		in         []uint64
		join, meet uint64
	}{
		{nil, none, all}, {[]uint64{none}, none, none}, {[]uint64{all}, all, all}, {[]uint64{6}, 6, 6}, {[]uint64{1, 4}, 5, 0}, {[]uint64{5, 6}, 7, 4},
		{[]uint64{1, 2, 4}, 7, 0}, {[]uint64{7, 6, 12}, 15, 4}, {[]uint64{high | 1, high, high | 2}, high | 3, high}, {[]uint64{all, 0, all}, all, 0},
	} {
		if got := label.Join(c.in...); got != c.join {
			t.Errorf("Join(%v) = %d", c.in, got)
		}
		if got := label.Meet(c.in...); got != c.meet {
			t.Errorf("Meet(%v) = %d", c.in, got)
		}
	}
	for _, c := range []struct{ a, b, want uint64 }{
		{7, 2, 5}, {5, 5, 0}, {2, 7, 0}, {5, 0, 5}, {0, 5, 0}, {all, high, all >> 1}, {high | 1, 1, high}, {1, 2, 1},
	} {
		if got := label.Without(c.a, c.b); got != c.want {
			t.Errorf("Without(%d, %d) = %d", c.a, c.b, got)
		}
	}
}

// TestR4: what is passed as a slice is not changed, and results share no memory.
func TestR4(t *testing.T) {
	categories, labels := []int{63, 2, 2, 0}, []uint64{7, 12, 1}
	label.Of(categories...)
	label.Join(labels...)
	label.Meet(labels...)
	if !slices.Equal(categories, []int{63, 2, 2, 0}) || !slices.Equal(labels, []uint64{7, 12, 1}) {
		t.Error("an argument was changed", categories, labels)
	}
	first := label.List(5)
	first[0] = 9
	_ = append(first[:1], 8)
	if got := label.List(5); !slices.Equal(got, []int{0, 2}) {
		t.Error("results share memory:", got)
	}
}

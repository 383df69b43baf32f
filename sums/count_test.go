package sums_test

import (
	"math"
	"testing"

	"partywall/api"
	"partywall/sums"
)

const most = 1 << 40

// counts are counts, among them the ends, and numbers that are no counts.
func counts() []uint64 {
	return []uint64{0, 1, 2, 4, 63, 1 << 20, 1 << 32, 1<<39 - 1, 1 << 39, 1<<39 + 1, most - 2, most - 1, most, most + 1, 2 * most, 1 << 63, math.MaxUint64 - most, math.MaxUint64 - most + 1, math.MaxUint64 - 1, math.MaxUint64}
}

// sides are numbers from 0 to 2^40, among them the ends, and others.
func sides() []int {
	return []int{0, 1, 2, 3, 7, 8, 9, 1 << 20, 1<<20 + 1, 1<<32 - 1, 1 << 32, 1 << 39, most - 1, most, most + 1, 1 << 62, -1, -2, -most, math.MaxInt, math.MinInt}
}

// isSide says whether n is from first to 2^40.
func isSide(first, n int) bool { return first <= n && n <= most }

// TestP5_2Next: n + 1; ErrFull from 2^40 on.
func TestP5_2Next(t *testing.T) {
	for _, n := range counts() {
		got, e := sums.Next(n)
		if n < most && (got != n+1 || e != api.OK) || n >= most && (got != 0 || e != api.ErrFull) {
			t.Errorf("Next(%d) = %d, %v", n, got, e)
		}
	}
}

// TestP5_2Plus: a + b; ErrFull if the sum is greater than 2^40, or one of them is, also where the sum runs over.
func TestP5_2Plus(t *testing.T) {
	for _, a := range counts() {
		for _, b := range counts() {
			got, e := sums.Plus(a, b)
			if full := a > most || b > most-a; full && (got != 0 || e != api.ErrFull) || !full && (got != a+b || e != api.OK) {
				t.Errorf("Plus(%d, %d) = %d, %v", a, b, got, e)
			}
		}
	}
}

// TestP5_2Ceil: a divided by b, rounded up; ErrRange unless both are in their bounds.
func TestP5_2Ceil(t *testing.T) {
	for _, a := range sides() {
		for _, b := range sides() {
			want, err := 0, api.ErrRange
			if isSide(0, a) && isSide(1, b) {
				want, err = a/b, api.OK
				if a%b != 0 {
					want++
				}
			}
			if got, e := sums.Ceil(a, b); got != want || e != err {
				t.Errorf("Ceil(%d, %d) = %d, %v, not %d, %v", a, b, got, e, want, err)
			}
		}
	}
}

// TestP5_2Most: the lesser one of a times b and most, also where the product is greater than any type can hold; ErrRange unless all three are in their bounds.
func TestP5_2Most(t *testing.T) {
	for _, a := range sides() {
		for _, b := range sides() {
			for _, c := range sides() {
				want, err := 0, api.ErrRange
				if isSide(0, a) && isSide(0, b) && isSide(0, c) {
					want, err = c, api.OK
					if b == 0 || a <= c/b {
						want = a * b
					}
				}
				if got, e := sums.Most(a, b, c); got != want || e != err {
					t.Errorf("Most(%d, %d, %d) = %d, %v, not %d, %v", a, b, c, got, e, want, err)
				}
			}
		}
	}
	for _, c := range []struct{ a, b, most, want int }{
		{7, 7, 49, 49}, {7, 7, 48, 48}, {7, 7, 50, 49}, {0, most, 5, 0}, {most, 0, 5, 0}, {most, most, most, most}, {1 << 32, 1 << 32, 9, 9}, {1 << 32, 1 << 31, 9, 9}, {1 << 20, 1 << 20, most, most}, {1, 1, 0, 0}, {1<<20 + 1, 1 << 20, most, most}, {most, 1, most, most},
	} {
		if got, e := sums.Most(c.a, c.b, c.most); got != c.want || e != api.OK {
			t.Errorf("Most(%d, %d, %d) = %d, %v", c.a, c.b, c.most, got, e)
		}
	}
}

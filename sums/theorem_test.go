package sums_test

import (
	"math"
	"slices"
	"testing"

	"partywall/api"
	"partywall/sums"
)

// TestP5_5Order: Add and Mul do not depend on the order.
func TestP5_5Order(t *testing.T) {
	for _, operate := range []func(a, b int64) (int64, api.Errno){sums.Add, sums.Mul} {
		for _, a := range numbers() {
			for _, b := range numbers() {
				one, e := operate(a, b)
				if other, err := operate(b, a); one != other || e != err {
					t.Fatalf("%d and %d: %d, %v; %d, %v", a, b, one, e, other, err)
				}
			}
		}
	}
}

// TestP5_5Undone: Sub undoes Add, and Neg twice changes nothing.
func TestP5_5Undone(t *testing.T) {
	for _, a := range numbers() {
		for _, b := range numbers() {
			sum, e := sums.Add(a, b)
			if e != api.OK {
				continue
			}
			if back, e := sums.Sub(sum, b); back != a || e != api.OK {
				t.Fatalf("%d and %d: back to %d, %v", a, b, back, e)
			}
		}
		negative, e := sums.Neg(a)
		if e != api.OK {
			continue
		}
		if back, e := sums.Neg(negative); back != a || e != api.OK {
			t.Fatalf("%d: back to %d, %v", a, back, e)
		}
	}
}

// TestP5_6Beginnings: the sum is the last running sum; without an error all beginnings have none, and they have the same running sums.
func TestP5_6Beginnings(t *testing.T) {
	for l := range lists {
		sum, e := sums.Sum(l...)
		running, err := sums.Running(l)
		if e != err || e == api.OK && len(running) != len(l) || e == api.OK && len(l) > 0 && running[len(l)-1] != sum {
			t.Fatalf("%v: the sum %d, %v, the running sums %v, %v", l, sum, e, running, err)
		}
		for n := range running {
			part, e := sums.Running(l[:n+1])
			if last, err := sums.Sum(l[:n+1]...); !slices.Equal(part, running[:n+1]) || e != api.OK || last != running[n] || err != api.OK {
				t.Fatalf("%v: its beginning of %d has %v, %v, and the sum %d, %v", l, n+1, part, e, last, err)
			}
		}
	}
}

// TestP5_7Text: a number is read from its text, and only from that.
func TestP5_7Text(t *testing.T) {
	for _, n := range numbers() {
		text := sums.Text(n)
		if got, e := sums.Int(text); got != n || e != api.OK {
			t.Fatalf("%d: its text %q is %d, %v", n, text, got, e)
		}
		if got, e := sums.Nat(text, math.MaxUint64); n >= 0 && (got != uint64(n) || e != api.OK) || n < 0 && e != api.ErrForm {
			t.Fatalf("%d: its text %q is %d, %v", n, text, got, e)
		}
	}
	for s := range short {
		if n, e := sums.Int(s); e == api.OK && sums.Text(n) != s {
			t.Fatalf("%q is read as %d", s, n)
		}
	}
}

// TestP5_8Cut: cut twice is cut once, and all 64 bits are the number.
func TestP5_8Cut(t *testing.T) {
	for _, n := range numbers() {
		for count := 1; count <= 64; count++ {
			once, _, _ := sums.Cut(n, count)
			if twice, same, e := sums.Cut(once, count); twice != once || !same || e != api.OK {
				t.Fatalf("%d, cut to %d bits: %d, and then %d, %v, %v", n, count, once, twice, same, e)
			}
		}
		if all, same, e := sums.Cut(n, 64); all != n || !same || e != api.OK {
			t.Fatalf("%d, cut to all bits: %d, %v, %v", n, all, same, e)
		}
	}
}

// TestP5_9Ceil: Ceil is the least number that, times b, is at least a.
func TestP5_9Ceil(t *testing.T) {
	for a := range 40 {
		for b := 1; b < 40; b++ {
			want := 0
			for want*b < a {
				want++
			}
			if got, e := sums.Ceil(a, b); got != want || e != api.OK {
				t.Fatalf("Ceil(%d, %d) = %d, %v", a, b, got, e)
			}
		}
	}
	for _, a := range sides() {
		for _, b := range sides() {
			if got, e := sums.Ceil(a, b); e == api.OK && (got*b < a || got > 0 && (got-1)*b >= a) {
				t.Fatalf("Ceil(%d, %d) = %d", a, b, got)
			}
		}
	}
}

package sums

import (
	"math/bits"

	"partywall/api"
)

// isCount says whether n is a count.
func isCount(n uint64) bool { return n <= api.MaxCount }

// isBetween says whether n is from least to MaxCount.
func isBetween(least, n int) bool { return n >= least && n <= api.MaxCount }

// Next returns n + 1, or ErrFull if that is no count.
func Next(n uint64) (uint64, api.Errno) { return Plus(n, 1) }

// Plus returns a + b, or ErrFull if that, or something given, is no count.
func Plus(a, b uint64) (uint64, api.Errno) {
	// Each alone is checked first, so that the sum cannot run over.
	if !isCount(a) || !isCount(b) || !isCount(a+b) {
		return 0, api.ErrFull
	}
	return a + b, api.OK
}

// Ceil returns a divided by b, rounded up, or ErrRange unless a is from 0 to 2^40, and b from 1 to 2^40.
func Ceil(a, b int) (int, api.Errno) {
	if !isBetween(0, a) || !isBetween(1, b) {
		return 0, api.ErrRange
	}
	return (a + b - 1) / b, api.OK
}

// Most returns the lesser one of a times b and most, or ErrRange unless all three are from 0 to 2^40.
func Most(a, b, most int) (int, api.Errno) {
	if !isBetween(0, a) || !isBetween(0, b) || !isBetween(0, most) {
		return 0, api.ErrRange
	}
	high, low := bits.Mul64(uint64(a), uint64(b))
	if high != 0 || low > uint64(most) {
		return most, api.OK
	}
	return int(low), api.OK
}

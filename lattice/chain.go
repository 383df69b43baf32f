package lattice

import (
	"cmp"
	"math/bits"
	"slices"

	"partywall/api"
	"partywall/label"
)

// Chain reports whether of any two labels of the family one is at most the other one.
func Chain(l []uint64) (bool, api.Errno) {
	if !isFamily(l) {
		return false, api.ErrFull
	}
	ranked := byCount(l)
	for i := 1; i < len(ranked); i++ {
		if !label.Below(ranked[i-1], ranked[i]) {
			return false, api.OK
		}
	}
	return true, api.OK
}

// Height returns how many labels the longest chain of the family has in which each is less than the next: 0 for none.
func Height(l []uint64) (int, api.Errno) {
	if !isFamily(l) {
		return 0, api.ErrFull
	}
	ranked, height := byCount(l), 0
	// heights are those of the longest chains that end with each label.
	heights := make([]int, len(ranked))
	for i, x := range ranked {
		heights[i] = 1
		for j, y := range ranked[:i] {
			if less(y, x) {
				heights[i] = max(heights[i], heights[j]+1)
			}
		}
		height = max(height, heights[i])
	}
	return height, api.OK
}

// byCount returns the labels with the fewest categories first, so that none is less than one before it.
func byCount(l []uint64) []uint64 {
	ranked := slices.Clone(l)
	slices.SortFunc(ranked, func(a, b uint64) int { return cmp.Compare(count(a), count(b)) })
	return ranked
}

// count returns how many categories l has.
func count(l uint64) int {
	n := 0
	for ; l != 0; n++ {
		// This shifts the least category out, also if it is the last one: a shift by 64 leaves 0.
		l >>= bits.TrailingZeros64(l) + 1
	}
	return n
}

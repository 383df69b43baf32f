package lattice

import (
	"maps"
	"slices"

	"partywall/api"
	"partywall/label"
)

// mostJoins is how many labels a closure may have.
const mostJoins = 256

// Closure returns the joins of all parts of the family but the empty one, each once, ascending, or ErrFull if there are more than 256.
func Closure(l []uint64) ([]uint64, api.Errno) {
	if !isFamily(l) {
		return nil, api.ErrFull
	}
	joins := map[uint64]bool{}
	for _, x := range l {
		for _, y := range ascending(joins) {
			joins[join(x, y)] = true
		}
		joins[x] = true
		// No label makes the closure smaller.
		if len(joins) > mostJoins {
			return nil, api.ErrFull
		}
	}
	return ascending(joins), api.OK
}

// ascending returns the labels of a set, ascending as numbers.
func ascending(set map[uint64]bool) []uint64 { return slices.Sorted(maps.Keys(set)) }

// Cover returns the join of the first labels of the family, as few as are needed so that x is at most it, or ErrLabel unless x is at most the join of all.
func Cover(l []uint64, x uint64) (uint64, api.Errno) {
	all, e := Join(l)
	switch {
	case e != api.OK:
		return 0, e
	case !label.Below(x, all):
		return 0, api.ErrLabel
	}
	var cover uint64
	for _, y := range l {
		if label.Below(x, cover) {
			break
		}
		cover = join(cover, y)
	}
	return cover, api.OK
}

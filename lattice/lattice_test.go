package lattice_test

import (
	"reflect"
	"slices"
	"testing"

	"partywall/api"
	"partywall/lattice"
)

const (
	none = uint64(0)
	all  = ^uint64(0)
	high = uint64(1) << 63
)

// within says whether all categories of a are in b, one by one.
func within(a, b uint64) bool {
	for i := range 64 {
		if a>>i&1 == 1 && b>>i&1 == 0 {
			return false
		}
	}
	return true
}

// under says whether a is less than b.
func under(a, b uint64) bool { return a != b && within(a, b) }

// spread returns the label with the last bits of n as its categories 0, 1, 31, 32, 62 and 63, so that the ends of words take part.
func spread(n uint64) uint64 {
	return n&1 | n>>1&1<<1 | n>>2&1<<31 | n>>3&1<<32 | n>>4&1<<62 | n>>5&1<<63
}

// singles returns the labels with one of the first n categories each.
func singles(n int) []uint64 {
	var l []uint64
	for i := range n {
		l = append(l, 1<<i)
	}
	return l
}

// ladder returns n labels, each with the categories of the one before and one more.
func ladder(n int) []uint64 {
	var l []uint64
	for i := range n {
		l = append(l, all>>(63-i))
	}
	return l
}

// small yields all families of at most 3 labels with three categories.
func small(yield func([]uint64) bool) {
	labels := []uint64{none, 1, 2, 3, high, high | 1, high | 2, high | 3}
	level := [][]uint64{nil}
	for range 4 {
		var next [][]uint64
		for _, l := range level {
			if !yield(l) {
				return
			}
			for _, x := range labels {
				next = append(next, append(slices.Clone(l), x))
			}
		}
		level = next
	}
}

// mixed yields families of up to 10 labels with six categories, without an order, some labels several times.
func mixed(yield func([]uint64) bool) {
	state := uint64(1)
	for i := range 600 {
		var l []uint64
		for range i % 11 {
			state = state*6364136223846793005 + 1442695040888963407
			l = append(l, spread(state>>40))
		}
		if !yield(l) {
			return
		}
	}
}

// large yields families with many labels, up to the 64 that there may be.
func large(yield func([]uint64) bool) {
	backward := ladder(64)
	slices.Reverse(backward)
	for _, l := range [][]uint64{singles(64), ladder(64), backward, slices.Repeat([]uint64{none}, 64), slices.Repeat([]uint64{all}, 64), slices.Repeat([]uint64{5, 6}, 32), append(ladder(32), singles(32)...), slices.Repeat([]uint64{high, 3, 1, high | 1}, 16)} {
		if !yield(l) {
			return
		}
	}
}

// families yields all of these families.
func families(yield func([]uint64) bool) {
	for _, group := range []func(func([]uint64) bool){small, mixed, large} {
		for l := range group {
			if !yield(l) {
				return
			}
		}
	}
}

// samples are labels to compare a family with: those with categories of the families, and full ones.
func samples() []uint64 {
	l := []uint64{all, all - 1, all >> 1, 0x5555555555555555, 0xaaaaaaaaaaaaaaaa}
	for n := range uint64(64) {
		l = append(l, spread(n))
	}
	return l
}

// outcome is what is asked of each function: whether its result is zero, and its error.
type outcome struct {
	zero bool
	err  api.Errno
}

// outcomeOf returns the outcome of a call.
func outcomeOf[X any](result X, err api.Errno) outcome {
	return outcome{reflect.ValueOf(result).IsZero(), err}
}

// outcomes returns the outcome of each function.
func outcomes(l []uint64, x uint64) map[string]outcome {
	return map[string]outcome{
		"Join":    outcomeOf(lattice.Join(l)),
		"Meet":    outcomeOf(lattice.Meet(l)),
		"Below":   outcomeOf(lattice.Below(l, x)),
		"Maximal": outcomeOf(lattice.Maximal(l)),
		"Minimal": outcomeOf(lattice.Minimal(l)),
		"Chain":   outcomeOf(lattice.Chain(l)),
		"Height":  outcomeOf(lattice.Height(l)),
		"Closure": outcomeOf(lattice.Closure(l)),
		"Cover":   outcomeOf(lattice.Cover(l, x)),
	}
}

// TestP4_1Full: no function takes more than 64 labels, also where Cover would return ErrLabel; each takes 64.
func TestP4_1Full(t *testing.T) {
	for _, n := range []int{65, 66, 127, 128, 256, 257, 65536, 65600} {
		for _, x := range []uint64{none, 1, all} {
			for _, y := range []uint64{2, x} {
				for name, got := range outcomes(slices.Repeat([]uint64{x}, n), y) {
					if want := (outcome{true, api.ErrFull}); got != want {
						t.Errorf("%s of %d labels %d: %v", name, n, x, got)
					}
				}
			}
		}
	}
	for name, got := range outcomes(slices.Repeat([]uint64{all}, 64), all) {
		if want := (outcome{false, api.OK}); got != want {
			t.Errorf("%s of 64 labels: %v", name, got)
		}
	}
}

// TestP4_1Join: the join of a family, 0 for none.
func TestP4_1Join(t *testing.T) {
	for _, c := range []struct {
		l    []uint64
		want uint64
	}{
		{nil, none}, {[]uint64{}, none}, {[]uint64{none}, none}, {[]uint64{all}, all}, {[]uint64{high}, high}, {[]uint64{1, 6}, 7}, {[]uint64{6, 1, 6}, 7}, {[]uint64{3, 5}, 7}, {[]uint64{high, 1, none}, high | 1},
		{singles(64), all}, {singles(63), all >> 1}, {ladder(64), all}, {ladder(9), 511},
	} {
		if got, e := lattice.Join(c.l); got != c.want || e != api.OK {
			t.Errorf("Join(%v) = %d, %v", c.l, got, e)
		}
	}
}

// TestP4_1Meet: the meet of a family, ErrMissing for none.
func TestP4_1Meet(t *testing.T) {
	for _, c := range []struct {
		l    []uint64
		want uint64
	}{
		{[]uint64{none}, none}, {[]uint64{all}, all}, {[]uint64{high}, high}, {[]uint64{3, 6}, 2}, {[]uint64{6, 3, 6}, 2}, {[]uint64{1, 6}, none}, {[]uint64{7, 6, 12}, 4}, {[]uint64{high | 1, high | 2, all}, high},
		{singles(64), none}, {ladder(64), 1}, {slices.Repeat([]uint64{all}, 64), all},
	} {
		if got, e := lattice.Meet(c.l); got != c.want || e != api.OK {
			t.Errorf("Meet(%v) = %d, %v", c.l, got, e)
		}
	}
	for _, l := range [][]uint64{nil, {}} {
		if got, e := lattice.Meet(l); got != 0 || e != api.ErrMissing {
			t.Errorf("Meet(none) = %d, %v", got, e)
		}
	}
}

// where returns the numbers of the labels that are meant, ascending.
func where(l []uint64, meant func(uint64) bool) []int {
	var numbers []int
	for i, x := range l {
		if meant(x) {
			numbers = append(numbers, i)
		}
	}
	return numbers
}

// TestP4_2Below: the numbers of the labels that are at most top, ascending.
func TestP4_2Below(t *testing.T) {
	for l := range families {
		for _, top := range samples() {
			want := where(l, func(x uint64) bool { return within(x, top) })
			if got, e := lattice.Below(l, top); !slices.Equal(got, want) || e != api.OK {
				t.Fatalf("Below(%v, %d) = %v, %v", l, top, got, e)
			}
		}
	}
}

// TestP4_2Extremes: the numbers of the maximal and of the minimal labels, each place of a label for itself.
func TestP4_2Extremes(t *testing.T) {
	for l := range families {
		top := where(l, func(x uint64) bool { return !slices.ContainsFunc(l, func(y uint64) bool { return under(x, y) }) })
		if got, e := lattice.Maximal(l); !slices.Equal(got, top) || e != api.OK {
			t.Fatalf("Maximal(%v) = %v, %v", l, got, e)
		}
		bottom := where(l, func(x uint64) bool { return !slices.ContainsFunc(l, func(y uint64) bool { return under(y, x) }) })
		if got, e := lattice.Minimal(l); !slices.Equal(got, bottom) || e != api.OK {
			t.Fatalf("Minimal(%v) = %v, %v", l, got, e)
		}
	}
}

// TestR4: arguments are not changed, and results share no memory.
func TestR4(t *testing.T) {
	l := []uint64{7, 1, 6, 1, none, high}
	before := slices.Clone(l)
	outcomes(l, 7)
	if !slices.Equal(l, before) {
		t.Error("the argument was changed:", l)
	}
	for _, numbers := range []func([]uint64) ([]int, api.Errno){lattice.Maximal, lattice.Minimal, func(l []uint64) ([]int, api.Errno) { return lattice.Below(l, 7) }} {
		first, _ := numbers(l)
		want := slices.Clone(first)
		first[0] = 99
		if got, _ := numbers(l); !slices.Equal(got, want) {
			t.Error("results share memory:", got)
		}
	}
	one := []uint64{5}
	closure, _ := lattice.Closure(one)
	closure[0] = 99
	if got, _ := lattice.Closure(one); one[0] != 5 || !slices.Equal(got, []uint64{5}) {
		t.Error("closures share memory:", one, got)
	}
}

package lattice_test

import (
	"slices"
	"testing"

	"partywall/api"
	"partywall/label"
	"partywall/lattice"
)

// allBelow says whether all labels are at most top.
func allBelow(l []uint64, top uint64) bool {
	numbers, _ := lattice.Below(l, top)
	return len(numbers) == len(l)
}

// allAbove says whether bottom is at most all labels.
func allAbove(l []uint64, bottom uint64) bool {
	return !slices.ContainsFunc(l, func(x uint64) bool { return !label.Below(bottom, x) })
}

// TestP4_5Join: all labels are at most the join, and the join is at most all else of which that is so.
func TestP4_5Join(t *testing.T) {
	for l := range families {
		join, e := lattice.Join(l)
		if e != api.OK || !allBelow(l, join) {
			t.Fatal("not at most the join:", l, join, e)
		}
		for _, top := range samples() {
			if allBelow(l, top) && !label.Below(join, top) {
				t.Fatal("the join is not the least:", l, join, top)
			}
		}
		for i := range 64 {
			if join>>i&1 == 1 && allBelow(l, join&^(1<<i)) {
				t.Fatal("the join has a category too many:", l, join, i)
			}
		}
	}
}

// TestP4_5Meet: the meet is at most all labels, and all else of which that is so is at most the meet.
func TestP4_5Meet(t *testing.T) {
	for l := range families {
		meet, e := lattice.Meet(l)
		if len(l) == 0 {
			continue
		}
		if e != api.OK || !allAbove(l, meet) {
			t.Fatal("the meet is not at most all:", l, meet, e)
		}
		for _, bottom := range samples() {
			if allAbove(l, bottom) && !label.Below(bottom, meet) {
				t.Fatal("the meet is not the greatest:", l, meet, bottom)
			}
		}
		for i := range 64 {
			if meet>>i&1 == 0 && allAbove(l, meet|1<<i) {
				t.Fatal("the meet lacks a category:", l, meet, i)
			}
		}
	}
}

// TestP4_6Extremes: each label is at most a maximal one and at least a minimal one.
func TestP4_6Extremes(t *testing.T) {
	for l := range families {
		top, _ := lattice.Maximal(l)
		bottom, _ := lattice.Minimal(l)
		for _, x := range l {
			if !slices.ContainsFunc(top, func(i int) bool { return label.Below(x, l[i]) }) {
				t.Fatal("at most no maximal label:", l, top, x)
			}
			if !slices.ContainsFunc(bottom, func(i int) bool { return label.Below(l[i], x) }) {
				t.Fatal("at least no minimal label:", l, bottom, x)
			}
		}
	}
}

// TestP4_7Closure: the closure has the family in it, and the join of any two of its labels; its own closure is the same.
func TestP4_7Closure(t *testing.T) {
	for l := range families {
		closure, e := lattice.Closure(l)
		if e != api.OK {
			continue
		}
		for _, x := range l {
			if !slices.Contains(closure, x) {
				t.Fatal("not in the closure:", l, x)
			}
		}
		for _, x := range closure {
			for _, y := range closure {
				if !slices.Contains(closure, label.Join(x, y)) {
					t.Fatal("not closed:", l, x, y)
				}
			}
		}
		if len(closure) > 64 {
			continue
		}
		if again, e := lattice.Closure(closure); !slices.Equal(again, closure) || e != api.OK {
			t.Fatal("not its own closure:", l, closure, again, e)
		}
	}
}

// TestP4_8Chain: a family is a chain exactly if its height is the number of its different labels.
func TestP4_8Chain(t *testing.T) {
	chains := 0
	for l := range families {
		chain, _ := lattice.Chain(l)
		height, _ := lattice.Height(l)
		different := slices.Sorted(slices.Values(l))
		if chain != (height == len(slices.Compact(different))) {
			t.Fatal(l, chain, height)
		}
		if chain {
			chains++
		}
	}
	if chains < 100 {
		t.Error("too few chains are tried:", chains)
	}
}

// TestP4_9Meet: what is below a meet of two labels is what is below both.
func TestP4_9Meet(t *testing.T) {
	for l := range small {
		for _, a := range samples() {
			for _, b := range samples() {
				meet, _ := lattice.Meet([]uint64{a, b})
				both, _ := lattice.Below(l, meet)
				belowA, _ := lattice.Below(l, a)
				belowB, _ := lattice.Below(l, b)
				shared := slices.DeleteFunc(belowA, func(i int) bool { return !slices.Contains(belowB, i) })
				if !slices.Equal(both, shared) {
					t.Fatal(l, a, b, both, shared)
				}
			}
		}
	}
}

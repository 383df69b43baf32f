// Package label is layer 1: it computes with labels, sets of categories in words of 64 bits. See shared/doc/01-label.md.
package label

import (
	"iter"
	"math/bits"
	"slices"

	"partywall/api"
)

// greatest is the greatest category.
const greatest = 63

// isCategory says whether c is a category.
func isCategory(c int) bool { return c >= 0 && c <= greatest }

// categories yields the categories of l, ascending.
func categories(l uint64) iter.Seq[int] {
	return func(yield func(int) bool) {
		// Subtracting 1 clears the least category and sets only what is below it.
		for rest := l; rest != 0; rest &= rest - 1 {
			if !yield(bits.TrailingZeros64(rest)) {
				return
			}
		}
	}
}

// Of returns the label with these categories, or ErrRange unless all of them are from 0 to 63.
func Of(categories ...int) (uint64, api.Errno) {
	var l uint64
	for _, c := range categories {
		if !isCategory(c) {
			return 0, api.ErrRange
		}
		l |= 1 << c
	}
	return l, api.OK
}

// Has returns whether l has the category, or ErrRange unless that is from 0 to 63.
func Has(l uint64, category int) (bool, api.Errno) {
	if !isCategory(category) {
		return false, api.ErrRange
	}
	return l>>category&1 == 1, api.OK
}

// List returns the categories of l, ascending.
func List(l uint64) []int { return slices.Collect(categories(l)) }

// Count returns how many categories l has.
func Count(l uint64) int { return bits.OnesCount64(l) }

// Below returns whether a is at most b.
func Below(a, b uint64) bool { return Without(a, b) == 0 }

// Comparable returns whether one of the labels is at most the other one.
func Comparable(a, b uint64) bool { return Below(a, b) || Below(b, a) }

// Join returns the label with all categories of any of l: none for no labels.
func Join(l ...uint64) uint64 {
	var join uint64
	for _, x := range l {
		join |= x
	}
	return join
}

// Meet returns the label with the categories that are in all of l: all of them for no labels.
func Meet(l ...uint64) uint64 {
	meet := ^uint64(0)
	for _, x := range l {
		meet &= x
	}
	return meet
}

// Without returns the categories of a that b does not have.
func Without(a, b uint64) uint64 { return a &^ b }

// Least returns the least category of l, or ErrRange if it has none.
func Least(l uint64) (int, api.Errno) {
	for c := range categories(l) {
		return c, api.OK
	}
	return 0, api.ErrRange
}

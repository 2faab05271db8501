// Package marks implements sets of small integers as bit sets. It is layer 1: see shared/doc/01-marks.md.
package marks

import (
	"iter"
	"math/bits"
	"slices"

	"seisin/api"
)

// size is the number of integers that a set can contain.
const size = 64

// elements enumerates the elements of s in increasing order.
func elements(s api.Set) iter.Seq[int] {
	return func(yield func(int) bool) {
		for rest := s; rest != 0; rest &= rest - 1 {
			if !yield(bits.TrailingZeros64(uint64(rest))) {
				return
			}
		}
	}
}

// count returns the number of elements of s that fit.
func count(s api.Set, fits func(int) bool) int {
	n := 0
	for i := range elements(s) {
		if fits(i) {
			n++
		}
	}
	return n
}

// All returns the set of the integers from 0 to n-1.
func All(n int) api.Set {
	if n < 1 {
		return 0
	}
	// A shift by size or more leaves 0, and 0 - 1 wraps round to the full set.
	return api.Set(1)<<n - 1
}

// Of returns the set of the elements of l.
func Of(l []int) (api.Set, api.Errno) {
	var s api.Set
	for _, i := range l {
		if i < 0 || i >= size {
			return 0, api.ErrArg
		}
		s |= 1 << i
	}
	return s, api.OK
}

// List returns the elements of s in increasing order.
func List(s api.Set) []int {
	return slices.Collect(elements(s))
}

// Len returns the number of elements of s.
func Len(s api.Set) int {
	return count(s, func(int) bool { return true })
}

// First returns the minimum element of s.
func First(s api.Set) (int, bool) {
	return Next(s, -1)
}

// Next returns the minimum element of s that is greater than i.
func Next(s api.Set, i int) (int, bool) {
	for e := range elements(s) {
		if e > i {
			return e, true
		}
	}
	return 0, false
}

// Pick returns the element of s with exactly k smaller elements.
func Pick(s api.Set, k int) (int, bool) {
	smaller := 0
	for e := range elements(s) {
		if smaller == k {
			return e, true
		}
		smaller++
	}
	return 0, false
}

// Rank returns the number of elements of s less than i.
func Rank(s api.Set, i int) int {
	return count(s, func(e int) bool { return e < i })
}

// Subsets returns all subsets of s in increasing order.
func Subsets(s api.Set, most int) ([]api.Set, api.Errno) {
	if most > api.MaxSubsets {
		return nil, api.ErrArg
	}
	n := Len(s)
	if !powerFits(n, most) {
		return nil, api.ErrMany
	}
	l := make([]api.Set, 0, 1<<n)
	for sub := api.Set(0); ; sub = nextSubset(s, sub) {
		l = append(l, sub)
		if sub == s {
			return l, api.OK
		}
	}
}

// powerFits reports whether 2 to the power n is at most most. It compares lengths in bits, because 2 to the power 64 overflows.
func powerFits(n, most int) bool {
	return most > 0 && n < bits.Len(uint(most))
}

// nextSubset returns the subset of s that follows sub. With all bits outside s set, the carry of the addition crosses them, so that it counts in the bits of s alone.
func nextSubset(s, sub api.Set) api.Set {
	return ((sub | ^s) + 1) & s
}

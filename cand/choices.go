package cand

import "iter"

// choices enumerates the choices of an element of each list. It works like an odometer that has a wheel for each list, of which the last one turns fastest. The next choice overwrites the one before.
func choices[V any](lists [][]V) iter.Seq[[]V] {
	return func(yield func([]V) bool) {
		if count(lists, 1) == 0 {
			return
		}
		wheels := make([]int, len(lists))
		chosen := make([]V, len(lists))
		for more := true; more; more = advance(wheels, lists) {
			for i, l := range lists {
				chosen[i] = l[wheels[i]]
			}
			if !yield(chosen) {
				return
			}
		}
	}
}

// advance turns the last wheel, and with each wheel that is back at its first element the one ahead of it. It reports false if all of them are.
func advance[V any](wheels []int, lists [][]V) bool {
	for i := len(wheels) - 1; i >= 0; i-- {
		wheels[i]++
		if wheels[i] < len(lists[i]) {
			return true
		}
		wheels[i] = 0
	}
	return false
}

// count returns the number of choices of an element of each list, or most+1 if there are more than most.
func count[V any](lists [][]V, most int) int {
	n := 1
	for _, l := range lists {
		// What is too many stays so, unless one of the lists leaves no choice at all.
		n = min(n*len(l), most+1)
	}
	return n
}

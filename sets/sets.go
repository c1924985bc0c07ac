// Package sets has the sets of numbers that layers look through. A set is a list that ascends.
package sets

import (
	"cmp"
	"iter"
	"slices"
)

// Compare orders sets: those of fewer numbers come first, of equally many the smaller lists.
func Compare(a, b []int) int {
	return cmp.Or(cmp.Compare(len(a), len(b)), slices.Compare(a, b))
}

// Fewest returns the first one, by Compare, of the sets of numbers below n for which a condition holds, and whether there is one.
func Fewest(n int, holds func(set []int) bool) (set []int, found bool) {
	for set := range all(n) {
		if holds(set) {
			return set, true
		}
	}
	return nil, false
}

// all yields the sets of numbers below n, as Compare orders them.
func all(n int) iter.Seq[[]int] {
	return func(yield func([]int) bool) {
		sets := [][]int{nil}
		for i := 0; i < len(sets); i++ {
			set := sets[i]
			if !yield(set) {
				return
			}
			next := 0
			if len(set) > 0 {
				next = set[len(set)-1] + 1
			}
			for ; next < n; next++ {
				// One set grows in more than one way, so what grows must share no memory with it.
				sets = append(sets, append(slices.Clip(set), next))
			}
		}
	}
}

// Package sets has the sets and orders of numbers that layers look through. A set is a list that ascends.
package sets

import (
	"cmp"
	"iter"
	"slices"
)

// Compare orders sets: those of fewer numbers come first, of equally many the smaller lists.
func Compare(a, b []int) int {
	return cmp.Or(cmp.Compare(len(a), len(b)), slices.Compare(a, b))
}

// Fewest returns the first one, by Compare, of the sets of numbers below n for which a condition holds, and whether there is one.
func Fewest(n int, holds func(set []int) bool) (set []int, found bool) {
	for set := range all(n) {
		if holds(set) {
			return set, true
		}
	}
	return nil, false
}

// all yields the sets of numbers below n, as Compare orders them.
func all(n int) iter.Seq[[]int] {
	return func(yield func([]int) bool) {
		sets := [][]int{nil}
		for i := 0; i < len(sets); i++ {
			set := sets[i]
			if !yield(set) {
				return
			}
			next := 0
			if len(set) > 0 {
				next = set[len(set)-1] + 1
			}
			for ; next < n; next++ {
				sets = append(sets, grown(set, next))
			}
		}
	}
}

// grown returns a list with one number more, which shares no memory with it: one list grows in more than one way.
func grown(list []int, number int) []int {
	longer := make([]int, len(list), len(list)+1)
	copy(longer, list)
	return append(longer, number)
}

// Orders yields the lists that have each number below n once: the smaller ones first.
func Orders(n int) iter.Seq[[]int] { return from(n) }

// from yields the orders that begin with some numbers.
func from(n int, begun ...int) iter.Seq[[]int] {
	return func(yield func([]int) bool) {
		if len(begun) == n {
			yield(begun)
			return
		}
		for x := range n {
			if slices.Contains(begun, x) {
				continue
			}
			for list := range from(n, grown(begun, x)...) {
				if !yield(list) {
					return
				}
			}
		}
	}
}

package turn

import (
	"iter"
	"slices"
)

// numbers returns all numbers below n.
func numbers(n int) []int {
	list := make([]int, n)
	for x := range n {
		list[x] = x
	}
	return list
}

// grown returns a list with one number more, which shares no memory with it: one list grows in more than one way.
func grown(list []int, number int) []int {
	longer := make([]int, len(list), len(list)+1)
	copy(longer, list)
	return append(longer, number)
}

// chosen returns the numbers of a list for which a condition holds.
func chosen(list []int, holds func(int) bool) []int {
	var some []int
	for _, x := range list {
		if holds(x) {
			some = append(some, x)
		}
	}
	return some
}

// orders yields all lists that have each number below n once and begin with some: the smaller ones first.
func orders(n int, begun ...int) iter.Seq[[]int] {
	return func(yield func([]int) bool) {
		if len(begun) == n {
			yield(begun)
			return
		}
		for x := range n {
			if slices.Contains(begun, x) {
				continue
			}
			for list := range orders(n, grown(begun, x)...) {
				if !yield(list) {
					return
				}
			}
		}
	}
}

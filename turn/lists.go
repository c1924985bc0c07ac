package turn

import (
	"iter"
	"slices"
)

// numbers returns all numbers below n.
func numbers(n int) []int {
	list := make([]int, n)
	for x := range n {
		list[x] = x
	}
	return list
}

// grown returns a list with one number more, which shares no memory with it: one list grows in more than one way.
func grown(list []int, number int) []int {
	longer := make([]int, len(list), len(list)+1)
	copy(longer, list)
	return append(longer, number)
}

// chosen returns the numbers of a list for which a condition holds.
func chosen(list []int, holds func(int) bool) []int {
	var some []int
	for _, x := range list {
		if holds(x) {
			some = append(some, x)
		}
	}
	return some
}

// sets yields all lists of numbers below n that ascend: the shorter ones first, of equally long ones the smaller ones.
func sets(n int) iter.Seq[[]int] {
	return func(yield func([]int) bool) {
		lists := [][]int{nil}
		for i := 0; i < len(lists); i++ {
			list := lists[i]
			if !yield(list) {
				return
			}
			next := 0
			if len(list) > 0 {
				next = list[len(list)-1] + 1
			}
			for ; next < n; next++ {
				lists = append(lists, grown(list, next))
			}
		}
	}
}

// fewest returns the first one of the lists of numbers below n that ascend for which a condition holds, and whether there is one.
func fewest(n int, holds func(set []int) bool) (list []int, found bool) {
	for set := range sets(n) {
		if holds(set) {
			return set, true
		}
	}
	return nil, false
}

// orders yields all lists that have each number below n once and begin with some: the smaller ones first.
func orders(n int, begun ...int) iter.Seq[[]int] {
	return func(yield func([]int) bool) {
		if len(begun) == n {
			yield(begun)
			return
		}
		for x := range n {
			if slices.Contains(begun, x) {
				continue
			}
			for list := range orders(n, grown(begun, x)...) {
				if !yield(list) {
					return
				}
			}
		}
	}
}

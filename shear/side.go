package shear

import (
	"iter"
	"slices"
)

// shares yields the lists of the first stretches of so many shearmen: the smaller lists first.
func shares(men, stretches int) iter.Seq[[]int] {
	return func(yield func([]int) bool) {
		if men == 1 {
			yield([]int{0})
			return
		}
		for from := range shares(men-1, stretches) {
			for first := from[men-2]; first <= stretches; first++ {
				if !yield(append(slices.Clip(from), first)) {
					return
				}
			}
		}
	}
}

// greatest returns the greatest sum of costs of a shearman, by the first stretches of all.
func greatest(costs, from []int) int {
	var sums []int
	for man, first := range from {
		end := len(costs)
		if man+1 < len(from) {
			end = from[man+1]
		}
		sum := 0
		for _, cost := range costs[first:end] {
			sum += cost
		}
		sums = append(sums, sum)
	}
	return slices.Max(sums)
}

package shear

import (
	"iter"
	"math"

	"walkmill/api"
)

// least returns the first one of some lists that have the least of a number, and this number; there must be a list.
func least(lists iter.Seq[[]int], number func(list []int) int) (first []int, n int) {
	n = math.MaxInt
	for list := range lists {
		if other := number(list); other < n {
			first, n = list, other
		}
	}
	return first, n
}

// latest returns by how many hours the latest one of some cloths is late in an order.
func latest(jobs []api.ShearJob, order []int) int {
	hour, most := 0, 0
	for _, number := range order {
		hour += jobs[number].Hours
		most = max(most, hour-jobs[number].Due)
	}
	return most
}

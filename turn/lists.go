package turn

// numbers returns all numbers below n.
func numbers(n int) []int {
	list := make([]int, n)
	for x := range n {
		list[x] = x
	}
	return list
}

// chosen returns the numbers of a list for which a condition holds.
func chosen(list []int, holds func(int) bool) []int {
	var some []int
	for _, x := range list {
		if holds(x) {
			some = append(some, x)
		}
	}
	return some
}

package soap

import "slices"

// integer is any type of integers.
type integer interface {
	~int | ~int8 | ~int16 | ~int32 | ~int64 | ~uint | ~uint8 | ~uint16 | ~uint32 | ~uint64
}

// total adds up integers.
func total[N integer](numbers ...N) N {
	var all N
	for _, x := range numbers {
		all += x
	}
	return all
}

// shares returns what each weaver pays of a price, by the pounds that each one bought.
func shares(pounds []int, price int) []int {
	all := total(pounds...)
	list, rests := make([]int, len(pounds)), make([]int, len(pounds))
	for i, own := range pounds {
		list[i], rests[i] = price*own/all, price*own%all
	}
	for range price - total(list...) {
		// Fewer farthings are missing than shares were rounded, so nobody pays a second one.
		most := slices.Index(rests, slices.Max(rests))
		list[most]++
		rests[most] = 0
	}
	return list
}

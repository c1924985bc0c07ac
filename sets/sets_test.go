package sets_test

import (
	"fmt"
	"slices"
	"testing"

	"walkmill/api"
	"walkmill/samples"
	"walkmill/sets"
)

// TestOrder is that of the sets for which Fewest asks: all of them, as Compare orders them.
func TestOrder(t *testing.T) {
	for n := range 9 {
		var asked [][]int
		set, found := sets.Fewest(n, func(set []int) bool {
			asked = append(asked, set)
			return false
		})
		if found || set != nil {
			t.Errorf("Fewest of none of %d = %v, %v", n, set, found)
		}
		if !slices.EqualFunc(asked, samples.Sets(n), slices.Equal[[]int]) {
			t.Errorf("of %d: %v", n, asked)
		}
		if !slices.IsSortedFunc(asked, sets.Compare) {
			t.Errorf("%v is not ordered", asked)
		}
	}
}

// TestFewest is for the first one of several sets: it has the fewest numbers, and then is the smallest list.
func TestFewest(t *testing.T) {
	for _, x := range []struct {
		n     int
		holds func(set []int) bool
		want  []int
	}{
		{5, func(set []int) bool { return true }, nil},
		{0, func(set []int) bool { return true }, nil},
		{5, func(set []int) bool { return len(set) == 2 }, []int{0, 1}},
		{5, func(set []int) bool { return slices.Contains(set, 3) }, []int{3}},
		{5, func(set []int) bool { return slices.Equal(set, []int{2, 4}) || len(set) > 2 }, []int{2, 4}},
		{4, func(set []int) bool { return len(set) == 4 }, []int{0, 1, 2, 3}},
	} {
		if set, found := sets.Fewest(x.n, x.holds); !found || !slices.Equal(set, x.want) {
			t.Errorf("Fewest of %d = %v, %v, not %v", x.n, set, found, x.want)
		}
	}
}

// TestCompare is for sets that are equal, one a beginning of the other, of equally many numbers, and of fewer.
func TestCompare(t *testing.T) {
	for _, x := range []struct {
		a, b []int
		want int
	}{
		{nil, nil, 0}, {nil, []int{}, 0}, {[]int{1, 2}, []int{1, 2}, 0}, {nil, []int{0}, -1}, {[]int{1}, []int{1, 2}, -1},
		{[]int{9}, []int{1, 2}, -1}, {[]int{1, 3}, []int{1, 2}, 1}, {[]int{1, 9}, []int{2, 3}, -1},
	} {
		if got, back := sets.Compare(x.a, x.b), sets.Compare(x.b, x.a); got != x.want || back != -x.want {
			t.Errorf("Compare(%v, %v) = %d, and %d, not %d", x.a, x.b, got, back, x.want)
		}
	}
}

// TestOrders is for all orders, the smaller ones first, each in memory of its own, and for a search that ends early.
func TestOrders(t *testing.T) {
	for n := range 7 {
		var all [][]int
		for order := range sets.Orders(n) {
			all = append(all, order)
		}
		if !slices.EqualFunc(all, samples.Orders(n), slices.Equal[[]int]) {
			t.Errorf("of %d: %v", n, all)
		}
		samples.OwnLists(t, all, fmt.Sprint)
	}
	for order := range sets.Orders(5) {
		if order[0] == 1 {
			samples.List(t, "the first order that begins with 1", []int{1, 0, 2, 3, 4}, api.OK)(order, api.OK)
			break
		}
	}
}

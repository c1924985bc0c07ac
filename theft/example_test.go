package theft_test

import (
	"fmt"
	"testing"

	"walkmill/api"
	"walkmill/samples"
	"walkmill/theft"
)

// ExampleSure is the use that README.md shows.
func ExampleSure() {
	cloths := []api.TheftCloth{
		{Long: api.Span{Low: 300, High: 320}, Rate: api.Span{Low: 50, High: 60}, Threads: api.Span{Low: 20, High: 22}, Mark: "anna"},
		{Long: api.Span{Low: 200, High: 200}, Rate: api.Span{Low: 40, High: 40}, Threads: api.Span{Low: 21, High: 24}, Mark: "kate"},
	}
	pieces := []api.TheftPiece{
		{Long: 140, Off: 2, Threads: 21, Washed: api.Span{Low: 1, High: 2}, Mark: "????"},
		{Long: 95, Off: 0, Threads: 24, Washed: api.Span{Low: 1, High: 1}},
		{Long: 100, Off: 1, Threads: 22, Washed: api.Span{Low: 0, High: 0}, Mark: "?a??"},
	}
	owners, e := theft.Sure(cloths, pieces)
	fmt.Println(owners, e == api.OK)
	// Output: [0 1 1] true
}

// TestExampleOfLeast is for the example 1 of the chapter.
func TestExampleOfLeast(t *testing.T) {
	samples.List(t, "Least of anna", []int{145, 99, 99}, api.OK)(theft.Least(stolen(), left("??a?"), 0))
	samples.List(t, "Least of kate", []int{143, 98, 99}, api.OK)(theft.Least(stolen(), left("??a?"), 1))
}

// TestExampleOfOwners is for the example 2 of the chapter.
func TestExampleOfOwners(t *testing.T) {
	for mark, want := range map[string][]int{"??a?": nil, "???a": {0}, "????": {0, 1}} {
		samples.Table(t, mark, [][]int{want, {1}, {1}}, api.OK)(theft.Owners(stolen(), left(mark)))
	}
}

// TestExampleOfWays is for the example 3 of the chapter.
func TestExampleOfWays(t *testing.T) {
	counted(t, "Ways", 1, []int{0, 1, 1}, api.OK)(theft.Ways(stolen(), left("????")))
	samples.List(t, "Sure", []int{0, 1, 1}, api.OK)(theft.Sure(stolen(), left("????")))
}

// TestExampleOfFalse is for the example 4 of the chapter.
func TestExampleOfFalse(t *testing.T) {
	claims := say(is(0, 1), is(1, 1), isNot(0, 0))
	samples.List(t, "False", []int{0, 2}, api.OK)(theft.False(stolen(), left("????"), claims))
}

// TestExampleOfLay is for the example 5 of the chapter.
func TestExampleOfLay(t *testing.T) {
	pieces := some(edged("12", "34"), edged("3?", "77"), edged("77", "1?"))
	counted(t, "Lay", 3, []int{0, 1, 2}, api.OK)(theft.Lay(pieces))
}

// TestExampleOfThieves is for the example 6 of the chapter.
func TestExampleOfThieves(t *testing.T) {
	sights := saw(sight(0, 90, 15), sight(0, 130, 30), sight(1, 60, 45))
	samples.List(t, "Thieves", []int{1}, api.OK)(theft.Thieves(2, sights, to(100, 110)))
	samples.List(t, "Lied", []int{0}, api.OK)(theft.Lied(1, sights[:2], to(100, 110)))
}

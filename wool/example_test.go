package wool_test

import (
	"fmt"
	"testing"

	"walkmill/api"
	"walkmill/samples"
	"walkmill/wool"
)

// ExampleAmount is the use that README.md shows.
func ExampleAmount() {
	r := api.WoolRoad{
		Stations: []api.Span{{Low: 100, High: 200}, {Low: 0, High: 50}},
		Weighings: []api.WoolWeighing{
			{At: 0, Reading: 200, Off: 2},
			{At: 2, Reading: 140, Off: 1},
		},
	}
	ounces, e := wool.Amount(r, 0)
	fmt.Println(ounces, e == api.OK)
	// Output: {9 43} true
}

// TestExampleOfWeights is for the example 1 of the chapter.
func TestExampleOfWeights(t *testing.T) {
	samples.List(t, "Weights", spans(to(198, 199), to(158, 159), to(150, 151)), api.OK)(wool.Weights(mill(150)))
}

// TestExampleOfFlocks is for the example 2 of the chapter.
func TestExampleOfFlocks(t *testing.T) {
	samples.List(t, "Flocks", spans(to(39, 40), to(7, 8)), api.OK)(wool.Flocks(mill(150)))
	samples.Value(t, "Missing", to(0, 33), api.OK)(wool.Missing(mill(150)))
}

// TestExampleOfMissing is for the example 3 of the chapter.
func TestExampleOfMissing(t *testing.T) {
	samples.List[api.Span](t, "Weights", nil, api.ErrState)(wool.Weights(mill(140)))
	samples.Value(t, "Missing", to(9, 43), api.OK)(wool.Missing(mill(140)))
	samples.List(t, "Where", []int{0, 1}, api.OK)(wool.Where(mill(140)))
	samples.Value(t, "Amount", to(9, 43), api.OK)(wool.Amount(mill(140), 0))
	samples.List(t, "Wrong", []int{0}, api.OK)(wool.Wrong(mill(140)))
}

// TestExampleOfLook is for the example 4 of the chapter.
func TestExampleOfLook(t *testing.T) {
	samples.Two(t, "Look", 1, 1, api.OK)(wool.Look(mill(140), 0))
	for reading, where := range map[int][]int{149: {0}, 150: nil, 157: nil, 158: {1}} {
		e := api.OK
		if where == nil {
			e = api.ErrState
		}
		samples.List(t, fmt.Sprint("Where with ", reading), where, e)(wool.Where(mill(140, weigh(1, reading, 0))))
	}
}

// TestExampleOfCommon is for the example 5 of the chapter.
func TestExampleOfCommon(t *testing.T) {
	samples.List(t, "Common", []int{0}, api.OK)(wool.Common(days(mill(140), mill(140, weigh(1, 148, 0)))))
}

// TestExampleOfNeed is for the example 6 of the chapter.
func TestExampleOfNeed(t *testing.T) {
	samples.Value(t, "Need", 198, api.OK)(wool.Need(mill(150), 150))
}

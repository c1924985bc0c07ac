package teasel_test

import (
	"fmt"
	"slices"
	"testing"

	"walkmill/api"
	"walkmill/samples"
	"walkmill/teasel"
)

// ExampleFewest is the use that README.md shows.
func ExampleFewest() {
	rack := []api.TeaselFrame{
		{Rows: []int{10, 8, 9}, Wears: api.Span{Low: 1, High: 2}},
		{Rows: []int{6, 6, 12}, Wears: api.Span{Low: 0, High: 0}},
	}
	plan, e := teasel.Fewest(rack, 14, 40)
	fmt.Println(plan, e == api.OK)
	// Output: [{0 false} {0 false}] true
}

// TestExampleOfRaise is for the example 1 of the chapter.
func TestExampleOfRaise(t *testing.T) {
	plan := by(pass(0), turned(0))
	samples.List(t, "Raise", []api.Span{to(17, 18), to(14, 15), to(17, 18)}, api.OK)(teasel.Raise(rack(), plan))
	samples.Table(t, "Left", [][]api.Span{{to(6, 8), to(4, 6), to(5, 7)}, {to(6, 6), to(6, 6), to(12, 12)}}, api.OK)(teasel.Left(rack(), plan))
	samples.Two(t, "Even within 3", true, true, api.OK)(teasel.Even(rack(), plan, 3))
	samples.Two(t, "Even within 2", false, false, api.OK)(teasel.Even(rack(), plan, 2))
}

// TestExampleOfTurned is for the example 2 of the chapter.
func TestExampleOfTurned(t *testing.T) {
	plan := by(pass(0), pass(0))
	samples.Two(t, "Turned", 0, 3, api.OK)(teasel.Turned(rack(), plan))
	for _, x := range []struct {
		plan []api.TeaselPass
		far  int
	}{{plan, 4}, {flip(plan, 0), 3}, {flip(plan, 1), 3}} {
		samples.Two(t, "Even", true, true, api.OK)(teasel.Even(rack(), x.plan, x.far))
		samples.Two(t, "Even within less", false, false, api.OK)(teasel.Even(rack(), x.plan, x.far-1))
	}
}

// TestExampleOfFewest is for the example 3 of the chapter.
func TestExampleOfFewest(t *testing.T) {
	samples.List(t, "Fewest", by(pass(0), pass(0)), api.OK)(teasel.Fewest(rack(), 14, 40))
	samples.List(t, "Fewest of 15", by(pass(0), pass(0), pass(0)), api.OK)(teasel.Fewest(rack(), 15, 40))
}

// TestExampleOfLives is for the example 4 of the chapter.
func TestExampleOfLives(t *testing.T) {
	samples.Table(t, "Lives", [][]api.Span{{to(3, 5), to(2, 3), to(2, 4)}, slices.Repeat([]api.Span{to(100, 100)}, 3)}, api.OK)(teasel.Lives(rack(), 6))
	samples.Value(t, "Cloths", to(51, 51), api.OK)(teasel.Cloths(rack(), 6, 2))
}

// TestExampleOfTotal is for the example 5 of the chapter.
func TestExampleOfTotal(t *testing.T) {
	worn := known(rack(), []int{2, 2})
	samples.Table(t, "Lives", [][]api.Span{{to(3, 3), to(2, 2), to(2, 2)}, {to(1, 1), to(1, 1), to(4, 4)}}, api.OK)(teasel.Lives(worn, 6))
	samples.Value(t, "Total", to(4, 4), api.OK)(teasel.Total(worn, 6))
	samples.Value(t, "Cloths", to(3, 3), api.OK)(teasel.Cloths(worn, 6, 1))
	schedule(t, worn, 6, 4)
}

// TestExampleOfGuilty is for the example 6 of the chapter.
func TestExampleOfGuilty(t *testing.T) {
	samples.List(t, "Guilty", []api.TeaselRow{row(0, 1)}, api.OK)(teasel.Guilty(rack(), by(pass(0)), []int{10, 5, 9}))
	samples.List[api.TeaselRow](t, "Guilty of nothing", nil, api.ErrTwice)(teasel.Guilty(rack(), by(pass(0)), []int{10, 8, 9}))
}

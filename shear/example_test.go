package shear_test

import (
	"fmt"
	"testing"

	"walkmill/api"
	"walkmill/samples"
	"walkmill/shear"
)

// ExampleFewest is the use that README.md shows.
func ExampleFewest() {
	c := api.ShearCloth{
		Nap:  []api.Span{{Low: 50, High: 52}, {Low: 40, High: 44}, {Low: 30, High: 30}},
		Need: api.Span{Low: 28, High: 32},
	}
	b := api.ShearBlade{Bite: api.Span{Low: 10, High: 12}, Dull: 2}
	plan, e := shear.Fewest(c, b)
	fmt.Println(plan, e == api.OK)
	// Output: [28 28 28] true
}

// TestExampleOfAfter is for the example 1 of the chapter.
func TestExampleOfAfter(t *testing.T) {
	samples.List(t, "After", spans(to(30, 34), to(30, 30), to(30, 30)), api.OK)(shear.After(rough(), keen(), set(30, 30)))
	samples.Two(t, "Even", false, true, api.OK)(shear.Even(rough(), keen(), set(30, 30)))
}

// TestExampleOfCuts is for the example 2 of the chapter.
func TestExampleOfCuts(t *testing.T) {
	samples.List(t, "Cuts", spans(to(2, 3), to(1, 2), to(0, 0)), api.OK)(shear.Cuts(rough(), keen()))
}

// TestExampleOfFewest is for the example 3 of the chapter.
func TestExampleOfFewest(t *testing.T) {
	samples.List(t, "Fewest", set(28, 28, 28), api.OK)(shear.Fewest(rough(), keen()))
	samples.Two(t, "Even after it", true, true, api.OK)(shear.Even(rough(), keen(), set(28, 28, 28)))
	samples.Two(t, "Even if it is set lower", false, false, api.OK)(shear.Even(rough(), keen(), set(27, 28, 28)))
}

// TestExampleOfSide is for the example 4 of the chapter.
func TestExampleOfSide(t *testing.T) {
	shares(t, rough(), keen(), 3, 0, 1)
	shares(t, rough(), keen(), 5, 0)
}

// TestExampleOfLook is for the example 5 of the chapter.
func TestExampleOfLook(t *testing.T) {
	samples.Two(t, "Look", 0, 0, api.OK)(shear.Look(rough(), keen(), set(30, 30)))
}

// TestExampleOfMissed is for the example 6 of the chapter.
func TestExampleOfMissed(t *testing.T) {
	samples.List(t, "Missed", misses(miss(0, 0), miss(1, 0)), api.OK)(shear.Missed(rough(), keen(), found(set(30, 30), 40, 30, 30)))
}

// TestExampleOfOrder is for the example 7 of the chapter.
func TestExampleOfOrder(t *testing.T) {
	ordered(t, jobs(job(4, 5), job(2, 3), job(6, 20)), 1, 1, 0, 2)
}

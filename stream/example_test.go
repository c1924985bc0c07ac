package stream_test

import (
	"fmt"
	"slices"
	"testing"

	"walkmill/api"
	"walkmill/stream"
)

// ExampleMost is the use that README.md shows.
func ExampleMost() {
	m := api.StreamMill{Hammers: 3, Takes: 10, Blows: api.Span{Low: 30, High: 40}, Holds: 50, Now: api.Span{Low: 20, High: 25}}
	flows := []api.Span{{Low: 10, High: 20}, {Low: 0, High: 5}, {Low: 15, High: 30}}
	plan, e := stream.Most(m, flows)
	fmt.Println(plan, e == api.OK)
	// Output: [0 1 3] true
}

// TestExamplesOfPlans is for the examples 1 to 3 of the chapter.
func TestExamplesOfPlans(t *testing.T) {
	m, flows := example(), exampleFlows()
	if hour, surely, e := stream.Goes(m, flows, []int{2, 2, 1}); hour != 1 || surely || e != api.OK {
		t.Errorf("Goes = %d, %v, %d", hour, surely, e)
	}
	if l, e := stream.Levels(m, flows, []int{1, 1, 1}); !slices.Equal(l, []api.Span{to(20, 35), to(10, 30), to(15, 40)}) || e != api.OK {
		t.Errorf("Levels = %v, %d", l, e)
	}
	if s, e := stream.Blows(m, []int{1, 1, 1}); s != to(90, 120) || e != api.OK {
		t.Errorf("Blows = %v, %d", s, e)
	}
	if plan := most(t, m, flows); !slices.Equal(plan, []int{0, 1, 3}) {
		t.Errorf("Most = %v", plan)
	}
	for work, want := range map[int]int{3: 1, 4: 3} {
		if hours, e := stream.Done(m, flows, work); hours != want || e != api.OK {
			t.Errorf("Done of %d = %d, %d", work, hours, e)
		}
	}
}

// TestExamplesOfWater is for the examples 4 to 6 of the chapter.
func TestExamplesOfWater(t *testing.T) {
	m, flows := example(), exampleFlows()
	if a, b := lasts(t, m, flows, 2, 0); a != 1 || b != 3 {
		t.Errorf("Lasts of 2 from 0 = %d, %d", a, b)
	}
	if a, b := lasts(t, m, flows, 3, 2); a != 1 || b != 1 {
		t.Errorf("Lasts of 3 from 2 = %d, %d", a, b)
	}
	if from, e := stream.Window(m, flows, 2, 2); from != 1 || e != api.OK {
		t.Errorf("Window = %d, %d", from, e)
	}
	if held, e := stream.Upstream(m, flows, []int{1, 1, 1}); held != 7 || e != api.OK {
		t.Errorf("Upstream = %d, %d", held, e)
	}
	if l, e := stream.Stopped(m, flows, []int{2, 2}); !slices.Equal(l, []api.Span{to(10, 19), to(0, 5)}) || e != api.OK {
		t.Errorf("Stopped = %v, %d", l, e)
	}
	if hour, more, e := stream.Rain(m, flows, []int{2, 2, 1}); hour != 0 || more != 10 || e != api.OK {
		t.Errorf("Rain = %d, %d, %d", hour, more, e)
	}
}

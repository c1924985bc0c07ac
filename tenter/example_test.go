package tenter_test

import (
	"fmt"
	"slices"
	"testing"

	"walkmill/api"
	"walkmill/tenter"
)

// ExampleFill is the use that README.md shows.
func ExampleFill() {
	f := api.TenterField{
		Cloths: []api.TenterCloth{
			{Long: api.Span{Low: 200, High: 204}, Water: api.Span{Low: 30, High: 40}},
			{Long: api.Span{Low: 300, High: 310}, Water: api.Span{Low: 20, High: 20}},
			{Long: api.Span{Low: 100, High: 100}, Water: api.Span{Low: 50, High: 60}},
		},
		Frames:  []int{520, 300},
		Gap:     10,
		Stretch: 50,
	}
	cloths, e := tenter.Fill(f)
	fmt.Println(cloths, e == api.OK)
	// Output: [[1 2] [0]] true
}

// list fails unless a list is as an example says, with its error.
func list[E comparable](t *testing.T, name string, want []E, error api.Errno) func(list []E, e api.Errno) {
	return func(list []E, e api.Errno) {
		t.Helper()
		if !slices.Equal(list, want) || e != error {
			t.Errorf("%s = %v, %d, not %v, %d", name, list, e, want, error)
		}
	}
}

// number fails unless a number is as an example says, without an error.
func number(t *testing.T, name string, want int) func(number int, e api.Errno) {
	return func(number int, e api.Errno) {
		t.Helper()
		if number != want || e != api.OK {
			t.Errorf("%s = %d, %d, not %d", name, number, e, want)
		}
	}
}

// TestExampleOfHangs is for the example 1 of the chapter.
func TestExampleOfHangs(t *testing.T) {
	list(t, "Hangs", []api.Span{to(204, 210), to(310, 315), to(100, 105)}, api.OK)(tenter.Hangs(example()))
	if surely, possibly, e := tenter.Stretched(example(), 0, 212); surely || !possibly || e != api.OK {
		t.Errorf("Stretched = %v, %v, %d", surely, possibly, e)
	}
}

// TestExampleOfFill is for the example 2 of the chapter.
func TestExampleOfFill(t *testing.T) {
	if l := fill(t, example()); compareFills(l, [][]int{{1, 2}, {0}}) != 0 {
		t.Errorf("Fill = %v", l)
	}
	if n := bound(t, example()); n != 3 {
		t.Errorf("Bound = %d", n)
	}
}

// TestExamplesOfTight is for the example 3 of the chapter.
func TestExamplesOfTight(t *testing.T) {
	list[int](t, "Tight", nil, api.ErrState)(tenter.Tight(example(), 0, []int{1, 2}))
	short := set(example(), func(f *api.TenterField) { f.Frames[0] = 425 })
	list(t, "Tight of 425", []int{310, 105}, api.OK)(tenter.Tight(short, 0, []int{1, 2}))
}

// TestExampleOfAgainst is for the example 4 of the chapter.
func TestExampleOfAgainst(t *testing.T) {
	one := set(example(), func(f *api.TenterField) { f.Frames = []int{520} })
	list(t, "Against", []int{0, 1}, api.OK)(tenter.Against(one))
}

// TestExampleOfDry is for the example 5 of the chapter.
func TestExampleOfDry(t *testing.T) {
	list(t, "Dry", []api.Span{to(2, 3), to(1, 2), to(3, 5)}, api.OK)(tenter.Dry(example(), fair(), 0))
}

// TestExamplesOfRain is for the example 6 of the chapter.
func TestExamplesOfRain(t *testing.T) {
	number(t, "Need", 2)(tenter.Need(example(), fair(), 3))
	number(t, "Late of 1", 2)(tenter.Late(example(), fair(), 1, 3))
	number(t, "Late of 0", 0)(tenter.Late(example(), fair(), 0, 3))
	list(t, "Order", []int{0, 1}, api.OK)(tenter.Order(part(example(), []int{0, 1}), fair(), 3))
}

// TestExampleOfTheWhole is for the example 5 of DOC.md.
func TestExampleOfTheWhole(t *testing.T) {
	f := long([]int{520, 300}, 10, 0, 204, 310, 100)
	if l := fill(t, f); compareFills(l, [][]int{{1, 2}, {0}}) != 0 {
		t.Errorf("Fill = %v", l)
	}
}

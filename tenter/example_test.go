package tenter_test

import (
	"fmt"
	"testing"

	"walkmill/api"
	"walkmill/samples"
	"walkmill/tenter"
)

// ExampleFill is the use that README.md shows.
func ExampleFill() {
	f := api.TenterField{
		Cloths: []api.TenterCloth{
			{Long: api.Span{Low: 200, High: 204}, Water: api.Span{Low: 30, High: 40}},
			{Long: api.Span{Low: 300, High: 310}, Water: api.Span{Low: 20, High: 20}},
			{Long: api.Span{Low: 100, High: 100}, Water: api.Span{Low: 50, High: 60}},
		},
		Frames:  []int{520, 300},
		Gap:     10,
		Stretch: 50,
	}
	cloths, e := tenter.Fill(f)
	fmt.Println(cloths, e == api.OK)
	// Output: [[1 2] [0]] true
}

// TestExampleOfHangs is for the example 1 of the chapter.
func TestExampleOfHangs(t *testing.T) {
	samples.List(t, "Hangs", []api.Span{to(204, 210), to(310, 315), to(100, 105)}, api.OK)(tenter.Hangs(example()))
	if surely, possibly, e := tenter.Stretched(example(), 0, 212); surely || !possibly || e != api.OK {
		t.Errorf("Stretched = %v, %v, %d", surely, possibly, e)
	}
}

// TestExampleOfFill is for the example 2 of the chapter.
func TestExampleOfFill(t *testing.T) {
	if l := fill(t, example()); compareFills(l, [][]int{{1, 2}, {0}}) != 0 {
		t.Errorf("Fill = %v", l)
	}
	if n := bound(t, example()); n != 3 {
		t.Errorf("Bound = %d", n)
	}
}

// TestExamplesOfTight is for the example 3 of the chapter.
func TestExamplesOfTight(t *testing.T) {
	samples.List[int](t, "Tight", nil, api.ErrState)(tenter.Tight(example(), 0, []int{1, 2}))
	short := set(example(), func(f *api.TenterField) { f.Frames[0] = 425 })
	samples.List(t, "Tight of 425", []int{310, 105}, api.OK)(tenter.Tight(short, 0, []int{1, 2}))
}

// TestExampleOfAgainst is for the example 4 of the chapter.
func TestExampleOfAgainst(t *testing.T) {
	one := set(example(), func(f *api.TenterField) { f.Frames = []int{520} })
	samples.List(t, "Against", []int{0, 1}, api.OK)(tenter.Against(one))
}

// TestExampleOfDry is for the example 5 of the chapter.
func TestExampleOfDry(t *testing.T) {
	samples.List(t, "Dry", []api.Span{to(2, 3), to(1, 2), to(3, 5)}, api.OK)(tenter.Dry(example(), fair(), 0))
}

// TestExamplesOfRain is for the example 6 of the chapter.
func TestExamplesOfRain(t *testing.T) {
	samples.Value(t, "Need", 2, api.OK)(tenter.Need(example(), fair(), 3))
	samples.Value(t, "Late of 1", 2, api.OK)(tenter.Late(example(), fair(), 1, 3))
	samples.Value(t, "Late of 0", 0, api.OK)(tenter.Late(example(), fair(), 0, 3))
	samples.List(t, "Order", []int{0, 1}, api.OK)(tenter.Order(part(example(), []int{0, 1}), fair(), 3))
}

// TestExampleOfTheWhole is for the example 5 of DOC.md.
func TestExampleOfTheWhole(t *testing.T) {
	f := long([]int{520, 300}, 10, 0, 204, 310, 100)
	if l := fill(t, f); compareFills(l, [][]int{{1, 2}, {0}}) != 0 {
		t.Errorf("Fill = %v", l)
	}
}

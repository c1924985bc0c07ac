package stock_test

import (
	"fmt"
	"slices"
	"testing"

	"walkmill/api"
	"walkmill/stock"
)

// ExampleOut is the use that README.md shows.
func ExampleOut() {
	c := api.StockCloth{
		Parts:  []api.Span{{Low: 10, High: 12}, {Low: 10, High: 10}},
		Strong: api.Span{Low: 6, High: 7},
		Weak:   api.Span{Low: 2, High: 2},
		Turn:   2,
		Full:   30,
		Harm:   44,
	}
	hour, e := stock.Out(c)
	fmt.Println(hour, e == api.OK)
	// Output: 6 true
}

// TestExamplesOfFelts is for the examples 1 and 2 of the chapter.
func TestExamplesOfFelts(t *testing.T) {
	c := example()
	if l, e := stock.Beaten(c, 5); !slices.Equal(l, []int{3, 2}) || e != api.OK {
		t.Errorf("Beaten = %v, %d", l, e)
	}
	for hour, want := range map[int][]api.Span{
		5: {to(32, 37), to(28, 30)},
		6: {to(38, 44), to(30, 32)},
		7: {to(40, 46), to(36, 39)},
		8: {to(42, 48), to(42, 46)},
	} {
		if l := at(t, c, hour); !slices.Equal(l, want) {
			t.Errorf("At(%d) = %v, not %v", hour, l, want)
		}
	}
	if surely, possibly := fit(t, c); !slices.Equal(surely, []int{6}) || !slices.Equal(possibly, []int{5, 6, 7, 8}) {
		t.Errorf("Fit = %v, %v", surely, possibly)
	}
	if hour, e := stock.Out(c); hour != 6 || e != api.OK {
		t.Errorf("Out = %d, %d", hour, e)
	}
}

// TestExampleOfLook is for the example 3 of the chapter.
func TestExampleOfLook(t *testing.T) {
	c := within(example(), 31, 44)
	if surely, possibly := fit(t, c); len(surely) != 0 || !slices.Contains(possibly, 6) || !slices.Contains(possibly, 7) {
		t.Errorf("Fit = %v, %v", surely, possibly)
	}
	if hour, e := stock.Out(c); hour != 0 || e != api.ErrNone {
		t.Errorf("Out = %d, %d", hour, e)
	}
	if surely, possibly, e := stock.Ever(c); !surely || !possibly || e != api.OK {
		t.Errorf("Ever = %v, %v, %d", surely, possibly, e)
	}
	if m, e := stock.Look(c, 0); m != measure(0, 2, 0, 0) || e != api.OK {
		t.Errorf("Look = %v, %d", m, e)
	}
}

// TestExampleOfTurns is for the example 4 of the chapter.
func TestExampleOfTurns(t *testing.T) {
	c := turned(example(), 1)
	for hour, want := range map[int][]api.Span{5: {to(32, 37), to(28, 30)}, 6: {to(34, 39), to(34, 37)}} {
		if l := at(t, c, hour); !slices.Equal(l, want) {
			t.Errorf("At(%d) = %v, not %v", hour, l, want)
		}
	}
	if turn, hour, e := stock.Turns(example()); turn != 1 || hour != 6 || e != api.OK {
		t.Errorf("Turns = %d, %d, %d", turn, hour, e)
	}
}

// TestExampleOfMeasures is for the example 5 of the chapter.
func TestExampleOfMeasures(t *testing.T) {
	one := example(measure(1, 3, 21, 0))
	if strong, weak := gains(t, one); strong != to(7, 7) || weak != to(2, 2) {
		t.Errorf("Gains = %v, %v", strong, weak)
	}
	if l, e := stock.Starts(one); !slices.Equal(l, []int{0}) || e != api.OK {
		t.Errorf("Starts = %v, %d", l, e)
	}
	two := with(one, measure(0, 0, 20, 1))
	if l, e := stock.At(two, 0); len(l) != 0 || e != api.ErrState {
		t.Errorf("At = %v, %d", l, e)
	}
	if l, e := stock.Wrong(two); !slices.Equal(l, []int{1}) || e != api.OK {
		t.Errorf("Wrong = %v, %d", l, e)
	}
}

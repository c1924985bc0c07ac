package cloth_test

import (
	"fmt"
	"slices"
	"testing"

	"walkmill/api"
	"walkmill/cloth"
)

// ExampleAt is the use that README.md shows.
func ExampleAt() {
	c := api.Cloth{
		Tracks: []api.ClothTrack{
			{First: api.Span{Low: 1000, High: 1010}, Rate: api.Span{Low: 10, High: 20}},
			{First: api.Span{Low: 100, High: 100}, Rate: api.Span{Low: 50, High: 50}},
			{First: api.Span{Low: 500, High: 520}, Rate: api.Span{Low: 0, High: 10}},
		},
		Measures: []api.ClothMeasure{
			{What: api.ClothLong, Hour: 1, Reading: 985, Off: 2},
		},
	}
	spans, e := cloth.At(c, 0)
	fmt.Println(spans, e == api.OK)
	// Output: [{1000 1007} {100 100} {500 520}] true
}

// TestExamples is for the seven examples of the chapter.
func TestExamples(t *testing.T) {
	c := example()
	spans := func(l, want []api.Span) {
		t.Helper()
		if !slices.Equal(l, want) {
			t.Errorf("%v, not %v", l, want)
		}
	}
	spans(at(t, c, 1), []api.Span{to(983, 987), to(95, 95), to(502, 513)})
	spans(at(t, c, 0), []api.Span{to(1000, 1007), to(100, 100), to(507, 513)})
	spans(rates(t, c), []api.Span{to(13, 20), to(50, 50), to(0, 10)})
	if a, b := below(t, c, api.ClothWide, 90); a != 3 || b != 3 {
		t.Errorf("Below = %d, %d", a, b)
	}
	if a, b, e := cloth.Fits(c, measure(api.ClothLong, 1, 985, 1)); a || !b || e != api.OK {
		t.Errorf("Fits = %v, %v, %d", a, b, e)
	}
	if a, b, e := cloth.Fits(c, measure(api.ClothLong, 0, 1003, 4)); !a || !b || e != api.OK {
		t.Errorf("Fits = %v, %v, %d", a, b, e)
	}
	none := example(measure(api.ClothWide, 2, 80, 5))
	if _, e := cloth.At(none, 0); e != api.ErrState {
		t.Errorf("At without a truth = %d", e)
	}
	if l, e := cloth.Wrong(none); !slices.Equal(l, []int{2}) || e != api.OK {
		t.Errorf("Wrong = %v, %d", l, e)
	}
	yarns := [][]api.Span{{to(0, 12), to(50, 50), to(0, 10)}, {to(15, 40), to(50, 50), to(0, 10)}}
	if l, e := cloth.Yarns(c, yarns); !slices.Equal(l, []int{1}) || e != api.OK {
		t.Errorf("Yarns = %v, %d", l, e)
	}
	if l, e := cloth.Hours(c, []api.Span{to(950, 990), to(90, 96), to(500, 520)}); !slices.Equal(l, []int{1, 2}) || e != api.OK {
		t.Errorf("Hours = %v, %d", l, e)
	}
	parts := [2]api.Cloth{exact(400, 60, 300), withTrack(exact(600, 60, 600), api.ClothLong, track(600, 610, 0, 0))}
	for _, x := range []struct {
		heavy    int
		possibly bool
	}{{900, true}, {901, false}} {
		if a, b, e := cloth.Sewn(parts, exact(1000, 60, x.heavy), 5); a || b != x.possibly || e != api.OK {
			t.Errorf("Sewn = %v, %v, %d", a, b, e)
		}
	}
}

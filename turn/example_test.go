package turn_test

import (
	"fmt"
	"slices"
	"testing"

	"walkmill/api"
	"walkmill/samples"
	"walkmill/turn"
)

// ExampleFewest is the use that README.md shows.
func ExampleFewest() {
	d := api.TurnDay{
		Cloths: []api.TurnCloth{
			{Weaver: 0, Comes: 0, Hours: api.Span{Low: 4, High: 6}},
			{Weaver: 0, Comes: 0, Hours: api.Span{Low: 3, High: 3}},
			{Weaver: 1, Comes: 0, Hours: api.Span{Low: 5, High: 8}},
			{Weaver: 1, Comes: 2, Hours: api.Span{Low: 2, High: 4}},
		},
		Ranks: []int{1, 0},
	}
	stocks, e := turn.Fewest(d, 6)
	fmt.Println(stocks, e == api.OK)
	// Output: 2 true
}

// TestExampleOfOrder is for the example 1 of the chapter.
func TestExampleOfOrder(t *testing.T) {
	samples.List(t, "Order", []int{2, 0, 1, 3}, api.OK)(turn.Order(example()))
}

// TestExamplesOfStocks is for the example 2 of the chapter.
func TestExamplesOfStocks(t *testing.T) {
	for _, x := range []struct {
		stocks       int
		starts       []api.Span
		cloth, hours int
		ends         api.Span
	}{
		{1, []api.Span{to(5, 8), to(9, 14), to(0, 0), to(12, 17)}, 3, 15, to(14, 21)},
		{2, []api.Span{to(0, 0), to(4, 6), to(0, 0), to(5, 8)}, 1, 6, to(7, 12)},
	} {
		if l := starts(t, example(), x.stocks); !slices.Equal(l, x.starts) {
			t.Errorf("Starts(%d) = %v, not %v", x.stocks, l, x.starts)
		}
		if cloth, hours, e := turn.Waits(example(), x.stocks); cloth != x.cloth || hours != x.hours || e != api.OK {
			t.Errorf("Waits(%d) = %d, %d, %d, not %d, %d", x.stocks, cloth, hours, e, x.cloth, x.hours)
		}
		if s := ends(t, example(), x.stocks); s != x.ends {
			t.Errorf("Ends(%d) = %v, not %v", x.stocks, s, x.ends)
		}
	}
}

// TestExamplesOfLimits is for the examples 3 and 4 of the chapter.
func TestExamplesOfLimits(t *testing.T) {
	for limit, want := range map[int]int{6: 2, 1: 3, 0: 4} {
		if stocks := fewest(t, example(), limit); stocks != want {
			t.Errorf("Fewest(%d) = %d, not %d", limit, stocks, want)
		}
	}
	samples.List(t, "Proof", []int{0, 2}, api.OK)(turn.Proof(example(), 1, 6))
	d := example()
	d.Cloths = d.Cloths[:2]
	if hours := longest(t, d, 1); hours != 6 {
		t.Errorf("with the cloths 0 and 1 alone one waits for %d hours", hours)
	}
}

// TestExamplesOfJumped is for the example 5 of the chapter.
func TestExamplesOfJumped(t *testing.T) {
	samples.List(t, "Jumped", []int{0}, api.OK)(turn.Jumped(example(), []int{0, 2, 1, 3}))
	samples.List(t, "Jumped", []int{3}, api.OK)(turn.Jumped(example(), []int{3, 2, 0, 1}))
}

// TestExamplesOfJoined is for the example 6 of the chapter.
func TestExamplesOfJoined(t *testing.T) {
	if cloth, more, e := turn.Joined(example(), 1, 0, 1); cloth != 0 || more != 0 || e != api.ErrNone {
		t.Errorf("Joined = %d, %d, %d", cloth, more, e)
	}
	samples.Value(t, "Slack of 3", 500, api.OK)(turn.Slack(example(), 2, 6, 3))
	samples.Value(t, "Slack of 2", 0, api.OK)(turn.Slack(example(), 2, 6, 2))
}

// TestExamplesOfRanks is for the example 7 of the chapter.
func TestExamplesOfRanks(t *testing.T) {
	samples.List(t, "Ranks", []int{0, 1}, api.OK)(turn.Ranks(example(), 2, 6))
	if l, e := turn.Ranks(example(), 2, 5); len(l) != 0 || e != api.ErrState {
		t.Errorf("Ranks = %v, %d", l, e)
	}
	for _, ranks := range [][]int{{0, 1}, {1, 0}} {
		d := example()
		d.Ranks = ranks
		if wait := starts(t, d, 2)[1]; wait.High != 6 {
			t.Errorf("by %v the cloth 1 is taken at %v", ranks, wait)
		}
	}
}

// TestExampleOfTheWhole is for the example 4 of DOC.md.
func TestExampleOfTheWhole(t *testing.T) {
	if l := order(t, example()); slices.Index(l, 1) < slices.Index(l, 2) {
		t.Errorf("Order = %v", l)
	}
	if s := ends(t, example(), 1); s != to(14, 21) {
		t.Errorf("Ends = %v", s)
	}
}

package seal_test

import (
	"fmt"
	"slices"
	"testing"

	"walkmill/api"
	"walkmill/samples"
	"walkmill/seal"
)

// ExampleBest is the use that README.md shows.
func ExampleBest() {
	s := api.SealStatute{
		Kinds: []api.SealKind{
			{Sizes: []api.Span{{Low: 900, High: 960}, {Low: 60, High: 64}, {Low: 300, High: 340}}, Mark: "broad"},
			{Sizes: []api.Span{{Low: 400, High: 440}, {Low: 60, High: 70}, {Low: 120, High: 160}}, Mark: "kersey"},
			{Sizes: []api.Span{{Low: 400, High: 480}, {Low: 36, High: 44}, {Low: 100, High: 150}}, Mark: "straits"},
		},
		Grace: 10,
		Fine:  4,
		Off:   []int{3, 1, 2},
	}
	kind, fine, e := seal.Best(s, []int{438, 62, 140})
	fmt.Println(kind, fine, e == api.OK)
	// Output: 1 4 true
}

// kinds fails unless the kinds of a reading are as they are said to be.
func kinds(t *testing.T, s api.SealStatute, read, surely, possibly []int) {
	t.Helper()
	if got, can, e := seal.Kinds(s, read); !slices.Equal(got, surely) || !slices.Equal(can, possibly) || e != api.OK {
		t.Errorf("Kinds of %v = %v, %v, %d, not %v, %v", read, got, can, e, surely, possibly)
	}
}

// fine fails unless the fine of a reading is as it is said to be, with its error.
func fine(t *testing.T, s api.SealStatute, read []int, kind int, want api.Span, error api.Errno) {
	t.Helper()
	if span, e := seal.Fine(s, read, kind); span != want || e != error {
		t.Errorf("Fine of %v as %d = %v, %d, not %v, %d", read, kind, span, e, want, error)
	}
}

// torn fails unless the kinds of a torn mark are as they are said to be, with their error.
func torn(t *testing.T, s api.SealStatute, mark string, want []int, error api.Errno) {
	t.Helper()
	if l, e := seal.Torn(s, mark); !slices.Equal(l, want) || e != error {
		t.Errorf("Torn of %q = %v, %d, not %v, %d", mark, l, e, want, error)
	}
}

// wrong fails unless the rows of a book that are wrong, and the shift, are as they are said to be, with their error.
func wrong(t *testing.T, name string, want []int, at int, error api.Errno) func(list []int, shift int, e api.Errno) {
	return func(list []int, shift int, e api.Errno) {
		t.Helper()
		if !slices.Equal(list, want) || shift != at || e != error {
			t.Errorf("%s: Wrong = %v, %d, %d, not %v, %d, %d", name, list, shift, e, want, at, error)
		}
	}
}

// TestExampleOfKinds is for the example 1 of the chapter.
func TestExampleOfKinds(t *testing.T) {
	kinds(t, statute(), []int{430, 62, 140}, []int{1}, []int{1})
	kinds(t, statute(), []int{438, 62, 140}, nil, []int{1})
	kinds(t, statute(), []int{438, 45, 140}, nil, []int{2})
}

// TestExampleOfFine is for the example 2 of the chapter.
func TestExampleOfFine(t *testing.T) {
	fine(t, statute(), []int{438, 62, 140}, 1, to(0, 4), api.OK)
	fine(t, statute(), []int{438, 62, 140}, 2, api.Span{}, api.ErrState)
	fine(t, statute(), []int{890, 59, 341}, 0, to(28, 60), api.OK)
}

// TestExampleOfBest is for the example 3 of the chapter.
func TestExampleOfBest(t *testing.T) {
	samples.Two(t, "Best", 1, 4, api.OK)(seal.Best(statute(), []int{438, 62, 140}))
	samples.Two(t, "Best", 0, 0, api.ErrState)(seal.Best(statute(), []int{890, 59, 341}))
}

// TestExampleOfLook is for the example 4 of the chapter.
func TestExampleOfLook(t *testing.T) {
	samples.Two(t, "Look", 0, 0, api.ErrTwice)(seal.Look(statute(), []int{438, 62, 140}))
}

// TestExampleOfMarks is for the example 5 of the chapter.
func TestExampleOfMarks(t *testing.T) {
	samples.List[api.SealPair](t, "Alike", nil, api.OK)(seal.Alike(statute()))
	torn(t, statute(), "?ers??", []int{1}, api.OK)
}

// TestExampleOfForged is for the example 6 of the chapter, and the example 7 of DOC.md.
func TestExampleOfForged(t *testing.T) {
	samples.List(t, "Forged", []int{1}, api.OK)(seal.Forged([]api.SealStrike{strike(1, 5), strike(2, 9), strike(3, 7), strike(4, 8)}))
}

// TestExampleOfCord is for the example 7 of the chapter.
func TestExampleOfCord(t *testing.T) {
	rows := []api.SealRow{row(1, 385), row(1, 420)}
	samples.List(t, "Cord", []api.Span{to(12, 23)}, api.OK)(seal.Cord(statute(), rows, 0))
	wrong(t, "two rows", nil, 0, api.ErrTwice)(seal.Wrong(statute(), rows, 0))
	rows = append(rows, row(1, 300))
	samples.List[api.Span](t, "Cord with one more", nil, api.OK)(seal.Cord(statute(), rows, 0))
	wrong(t, "three rows", []int{2}, 12, api.OK)(seal.Wrong(statute(), rows, 0))
}

// TestExampleOfTheDesk is for the example 10 of DOC.md: the same cloth by a statute of one kind.
func TestExampleOfTheDesk(t *testing.T) {
	s := statute()
	s.Kinds = s.Kinds[1:2]
	samples.Two(t, "Best", 0, 4, api.OK)(seal.Best(s, []int{438, 62, 140}))
	torn(t, s, "?ers??", []int{0}, api.OK)
}

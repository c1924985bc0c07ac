package teasel

import (
	"slices"

	"walkmill/api"
)

// frames is a rack.
type frames []api.TeaselFrame

// rows returns how many rows each frame has, and how many stripes a cloth.
func (f frames) rows() int { return len(f[0].Rows) }

// list returns all rows, ascending.
func (f frames) list() []api.TeaselRow {
	var list []api.TeaselRow
	for number, frame := range f {
		for row := range frame.Rows {
			list = append(list, api.TeaselRow{Frame: number, Row: row})
		}
	}
	return list
}

// truth is by how much each row of each frame wears in a pass.
type truth [api.MaxTeaselFrames]int

// truths yields all truths of a rack.
func (f frames) truths(yield func(truth) bool) {
	if len(f) == 0 {
		yield(truth{})
		return
	}
	last := len(f) - 1
	for x := range f[:last].truths {
		for wears := f[last].Wears.Low; wears <= f[last].Wears.High; wears++ {
			x[last] = wears
			if !yield(x) {
				return
			}
		}
	}
}

// worst returns the truth in which all rows wear most.
func (f frames) worst() truth {
	var x truth
	for number, frame := range f {
		x[number] = frame.Wears.High
	}
	return x
}

// possibly reports whether a condition holds in some truth.
func (f frames) possibly(holds func(truth) bool) bool {
	for x := range f.truths {
		if holds(x) {
			return true
		}
	}
	return false
}

// surely reports whether a condition holds in all truths.
func (f frames) surely(holds func(truth) bool) bool {
	return !f.possibly(func(x truth) bool { return !holds(x) })
}

// ends returns the least and the greatest number over all truths.
func (f frames) ends(number func(truth) int) api.Span {
	var list []int
	for x := range f.truths {
		list = append(list, number(x))
	}
	return api.Span{Low: slices.Min(list), High: slices.Max(list)}
}

// each returns the least and the greatest number over all truths, row by row of a frame or stripe by stripe.
func (f frames) each(number func(x truth, row int) int) []api.Span {
	var list []api.Span
	for row := range f.rows() {
		list = append(list, f.ends(func(x truth) int { return number(x, row) }))
	}
	return list
}

// table returns the least and the greatest number over all truths, for each frame and each row of it.
func (f frames) table(number func(x truth, r api.TeaselRow) int) [][]api.Span {
	var list [][]api.Span
	for frame := range f {
		list = append(list, f.each(func(x truth, row int) int { return number(x, api.TeaselRow{Frame: frame, Row: row}) }))
	}
	return list
}

package seal

import (
	"walkmill/api"
	"walkmill/sets"
	"walkmill/valid"
)

// book is rows of the aulnager's book, in which one size was read.
type book struct {
	law
	rows []api.SealRow
	size int
}

// anyShift is all shifts.
func anyShift() api.Span { return api.Span{Low: -api.MaxSealShift, High: api.MaxSealShift} }

// right returns with which shifts a row is right, also with those that are out of limits.
func (b book) right(row api.SealRow) api.Span {
	own, off := b.box(row.Kind)[b.size], b.Off[b.size]
	return api.Span{Low: own.Low - off - row.Reading, High: own.High + off - row.Reading}
}

// cord returns the shifts with which all rows are right; if there are none, its Low is above its High.
func (b book) cord() api.Span {
	all := anyShift()
	for _, row := range b.rows {
		s := b.right(row)
		all = api.Span{Low: max(all.Low, s.Low), High: min(all.High, s.High)}
	}
	return all
}

// against returns the rows that are not right with a shift.
func (b book) against(shift int) []int {
	var list []int
	for number, row := range b.rows {
		if s := b.right(row); !valid.Within(s.Low, s.High, shift) {
			list = append(list, number)
		}
	}
	return list
}

// wrong returns the fewest rows that are not right with some shift, the smallest list of several, and the first shift with which it is these.
func (b book) wrong() (best []int, at int) {
	found := false
	for shift := range integers(anyShift()) {
		list := b.against(shift)
		if !found || sets.Compare(list, best) < 0 {
			best, at, found = list, shift, true
		}
	}
	return best, at
}

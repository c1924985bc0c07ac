package stock

import (
	"iter"
	"slices"

	"walkmill/api"
	"walkmill/sets"
	"walkmill/valid"
)

// chances are all truths of a felt.
type chances []chance

// chances returns all truths of a felt, by their gains.
func (f *felt) chances() chances {
	var list chances
nextGain:
	for g := range f.gains() {
		x := chance{felt: f, gain: g}
		copy(x.firsts[:], f.Parts)
		for _, m := range f.Measures {
			var can bool
			if x, can = x.measured(m); !can {
				continue nextGain
			}
		}
		list = append(list, x)
	}
	return list
}

// open returns the truths of a cloth, or its error: one without a truth has one here.
func open(c api.StockCloth) (chances, api.Errno) {
	if e := Check(c); e != api.OK {
		return nil, e
	}
	known := lay(c).chances()
	if len(known) == 0 {
		return nil, api.ErrState
	}
	return known, api.OK
}

// possible reports whether a cloth has a truth.
func possible(c api.StockCloth) bool { return len(lay(c).chances()) > 0 }

// ends returns the least and the greatest number of the spans that chances have: there must be one at least.
func (known chances) ends(span func(chance) api.Span) api.Span {
	all := span(known[0])
	for _, x := range known {
		s := span(x)
		all = api.Span{Low: min(all.Low, s.Low), High: max(all.High, s.High)}
	}
	return all
}

// at returns how thick a part can be after so many hours.
func (known chances) at(part, hour int) api.Span {
	return known.ends(func(x chance) api.Span { return x.at(part, hour) })
}

// fit reports whether the cloth is fit at an hour in all truths.
func (known chances) fit(hour int) bool {
	return valid.All(func(x chance) bool { return x.fit(hour) }, known...)
}

// canFit reports whether the cloth is fit at an hour in some truth.
func (known chances) canFit(hour int) bool {
	return slices.ContainsFunc(known, func(x chance) bool { return x.canFit(hour) })
}

// out returns the first hour at which the cloth is fit in all truths, and whether there is one.
func (known chances) out() (hour int, found bool) {
	return first(when(0, known.fit))
}

// measured returns the truths in which a measuring is right.
func (known chances) measured(m api.StockMeasure) chances {
	var list chances
	for _, x := range known {
		if left, can := x.measured(m); can {
			list = append(list, left)
		}
	}
	return list
}

// decides reports whether a measuring decides, whatever its reading is.
func (known chances) decides(m api.StockMeasure) bool {
	s := known.at(m.Part, m.Hour)
	for m.Reading = s.Low - m.Off; m.Reading <= s.High+m.Off; m.Reading++ {
		// What cannot be read leaves no truth, and so each hour is good for all that are left.
		left := known.measured(m)
		if _, found := first(when(m.Hour, left.fit)); !found {
			return false
		}
	}
	return true
}

// when yields the hours, not before one of them, at which a condition holds.
func when(from int, holds func(hour int) bool) iter.Seq[int] {
	return func(yield func(int) bool) {
		for hour := range hours {
			if hour >= from && holds(hour) && !yield(hour) {
				return
			}
		}
	}
}

// first returns the first one of some hours, and whether there is one.
func first(list iter.Seq[int]) (hour int, found bool) {
	for hour := range list {
		return hour, true
	}
	return 0, false
}

// wrong returns the fewest measurings of a cloth that must be wrong, the smallest list of several.
func wrong(c api.StockCloth) []int {
	var best []int
	found := false
	for set := range 1 << len(c.Measures) {
		list, rest := doubted(c, set)
		better := !found || sets.Compare(list, best) < 0
		if better && possible(rest) {
			best, found = list, true
		}
	}
	return best
}

// doubted returns the numbers of the measurings whose bits are in a set, and a cloth with all others.
func doubted(c api.StockCloth, set int) (list []int, rest api.StockCloth) {
	rest = c
	rest.Measures = nil
	for i, m := range c.Measures {
		if set>>i&1 == 1 {
			list = append(list, i)
		} else {
			rest.Measures = append(rest.Measures, m)
		}
	}
	return list, rest
}

package stock

import (
	"iter"

	"walkmill/api"
	"walkmill/valid"
)

// hours is how many hours there are, with the hour 0.
const hours = api.MaxStockHours + 1

// share is for how many of the first hours each part was beaten.
type share [api.MaxStockParts]int

// felt is a cloth, with the share of each hour.
type felt struct {
	api.StockCloth
	shares [hours]share
}

// lay returns the felt of a cloth.
func lay(c api.StockCloth) *felt {
	f := &felt{StockCloth: c}
	for hour := range api.MaxStockHours {
		next := f.shares[hour]
		next[(c.Start+hour/c.Turn)%len(c.Parts)]++
		f.shares[hour+1] = next
	}
	return f
}

// gain is what the part that is beaten gains in an hour, and what the others gain.
type gain struct{ strong, weak int }

// gains yields what would be the gains of a felt if nothing had been measured.
func (f *felt) gains() iter.Seq[gain] {
	return func(yield func(gain) bool) {
		for strong := f.Strong.Low; strong <= f.Strong.High; strong++ {
			for weak := f.Weak.Low; weak <= f.Weak.High; weak++ {
				if !yield(gain{strong, weak}) {
					return
				}
			}
		}
	}
}

// chance is all truths of a felt that have the same gain. Each measuring is of one part, so each part can have been at first whatever lies in its span, the others being what they may.
type chance struct {
	*felt
	gain
	firsts [api.MaxStockParts]api.Span
}

// more returns by how much thicker than at first a part is after so many hours.
func (x chance) more(part, hour int) int {
	beaten := x.shares[hour][part]
	return beaten*x.strong + (hour-beaten)*x.weak
}

// at returns how thick a part can be after so many hours.
func (x chance) at(part, hour int) api.Span {
	s, more := x.firsts[part], x.more(part, hour)
	return api.Span{Low: s.Low + more, High: s.High + more}
}

// every reports whether a condition holds for how thick each part can be after so many hours.
func (x chance) every(hour int, holds func(api.Span) bool) bool {
	for part := range x.Parts {
		if !holds(x.at(part, hour)) {
			return false
		}
	}
	return true
}

// fit reports whether the cloth is fit at an hour in all truths of a chance.
func (x chance) fit(hour int) bool {
	return x.every(hour, func(s api.Span) bool { return valid.Within(x.Full, x.Harm, s.Low, s.High) })
}

// canFit reports whether the cloth is fit at an hour in some truth of a chance.
func (x chance) canFit(hour int) bool {
	return x.every(hour, func(s api.Span) bool { return s.High >= x.Full && s.Low <= x.Harm })
}

// everFit reports whether each truth of a chance has an hour at which the cloth is fit.
func (x chance) everFit() bool {
	if _, found := first(when(0, x.fit)); found {
		return true
	}
	// No hour is good for all of them, but each half of them may have one of its own.
	for part, s := range x.firsts {
		if s.Low < s.High {
			low, high := x, x
			low.firsts[part].High = (s.Low + s.High) / 2
			high.firsts[part].Low = low.firsts[part].High + 1
			return low.everFit() && high.everFit()
		}
	}
	return false
}

// measured returns the truths of a chance in which a measuring is right, and whether there are any.
func (x chance) measured(m api.StockMeasure) (left chance, can bool) {
	more, s := x.more(m.Part, m.Hour), &x.firsts[m.Part]
	s.Low = max(s.Low, m.Reading-m.Off-more)
	s.High = min(s.High, m.Reading+m.Off-more)
	return x, s.Low <= s.High
}

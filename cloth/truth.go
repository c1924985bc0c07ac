package cloth

import (
	"iter"

	"walkmill/api"
	"walkmill/sets"
	"walkmill/valid"
)

const (
	whats = int(api.ClothHeavy) + 1 // how many quantities a cloth has
	hours = api.MaxClothHours + 1   // how many hours there are, with the hour 0
)

// truth is a rate of a quantity, and what the quantity is at each hour then.
type truth struct {
	rate  int
	sizes [hours]int
}

// course returns the truth of a quantity with what it was at first and its rate.
func course(first, rate int) truth {
	t := truth{rate: rate}
	size := first
	for hour := range hours {
		t.sizes[hour] = size
		size -= size * rate / 1000
	}
	return t
}

// fits reports whether a measuring of the quantity is right.
func (t truth) fits(m api.ClothMeasure) bool {
	return valid.Within(-m.Off, m.Off, t.sizes[m.Hour]-m.Reading)
}

// stretch is from the least to the greatest number of the truths that were added to it.
type stretch struct {
	api.Span
	truths int
}

// add makes a stretch just so wide that it has a truth's number too.
func (s *stretch) add(number int) {
	if s.truths == 0 {
		s.Low, s.High = number, number
	}
	s.Low, s.High = min(s.Low, number), max(s.High, number)
	s.truths++
}

// quantity is a quantity of a cloth. Its measures are those of the whole cloth, so that they keep their numbers.
type quantity struct {
	api.ClothTrack
	what     api.ClothWhat
	measures []api.ClothMeasure
}

// courses yields what would be the truths of a quantity if nothing had been measured.
func (q quantity) courses() iter.Seq[truth] {
	return func(yield func(truth) bool) {
		for first := q.First.Low; first <= q.First.High; first++ {
			for rate := q.Rate.Low; rate <= q.Rate.High; rate++ {
				if !yield(course(first, rate)) {
					return
				}
			}
		}
	}
}

// truths yields the truths of a quantity.
func (q quantity) truths() iter.Seq[truth] {
	return func(yield func(truth) bool) {
		for t := range q.courses() {
			if len(q.against(t)) == 0 && !yield(t) {
				return
			}
		}
	}
}

// against returns the numbers of the measurings that are wrong if a course is true.
func (q quantity) against(t truth) []int {
	var list []int
	for i, m := range q.measures {
		if m.What == q.what && !t.fits(m) {
			list = append(list, i)
		}
	}
	return list
}

// wrong returns the fewest measurings of a quantity that must be wrong, the smallest list of several.
func (q quantity) wrong() []int {
	var best []int
	found := false
	for t := range q.courses() {
		list := q.against(t)
		if !found || sets.Compare(list, best) < 0 {
			best, found = list, true
		}
	}
	return best
}

// possible reports whether a quantity has a truth.
func (q quantity) possible() bool {
	for range q.truths() {
		return true
	}
	return false
}

// byHour returns what a quantity can be, hour by hour.
func (q quantity) byHour() [hours]stretch {
	var list [hours]stretch
	for t := range q.truths() {
		for hour, size := range t.sizes {
			list[hour].add(size)
		}
	}
	return list
}

// hoursIn tells at which hours a quantity can lie in a span.
func (q quantity) hoursIn(s api.Span) [hours]bool {
	var can [hours]bool
	for t := range q.truths() {
		for hour, size := range t.sizes {
			can[hour] = can[hour] || valid.Within(s.Low, s.High, size)
		}
	}
	return can
}

// firsts returns what a quantity can have been at first.
func (q quantity) firsts() map[int]bool {
	set := map[int]bool{}
	for t := range q.truths() {
		set[t.sizes[0]] = true
	}
	return set
}

// quantities are the three quantities of a cloth.
type quantities [whats]quantity

// split returns the quantities of a cloth.
func split(c api.Cloth) quantities {
	var known quantities
	for i := range known {
		known[i] = quantity{ClothTrack: c.Tracks[i], what: api.ClothWhat(i), measures: c.Measures}
	}
	return known
}

// open returns the quantities of a cloth, or its error: one without a truth has one here.
func open(c api.Cloth) (quantities, api.Errno) {
	if e := Check(c); e != api.OK {
		return quantities{}, e
	}
	known := split(c)
	if !known.possible() {
		return quantities{}, api.ErrState
	}
	return known, api.OK
}

// possible reports whether each quantity has a truth.
func (known quantities) possible() bool {
	for _, q := range known {
		if !q.possible() {
			return false
		}
	}
	return true
}

// spans returns, for each quantity, from the least to the greatest number of its truths.
func (known quantities) spans(number func(truth) int) []api.Span {
	var list []api.Span
	for _, q := range known {
		var s stretch
		for t := range q.truths() {
			s.add(number(t))
		}
		list = append(list, s.Span)
	}
	return list
}

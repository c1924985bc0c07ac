// Package cloth is about cloths that shrink (chapter 1): what a raw cloth can be at each hour by all that was measured of it.
package cloth

import (
	"slices"

	"walkmill/api"
	"walkmill/valid"
)

// Check returns the error of a cloth. That it has no truth is none: Wrong and Yarns are for such cloths too.
func Check(c api.Cloth) api.Errno {
	switch {
	case len(c.Tracks) != whats || !valid.All(validTrack, c.Tracks...):
		return api.ErrForm
	case len(c.Measures) > api.MaxClothMeasures:
		return api.ErrLong
	case !valid.All(validMeasure, c.Measures...):
		return api.ErrArg
	}
	return api.OK
}

// At returns what the quantities of a cloth can be at an hour.
func At(c api.Cloth, hour int) ([]api.Span, api.Errno) {
	known, e := open(c)
	switch {
	case e != api.OK:
		return nil, e
	case !valid.Within(0, api.MaxClothHours, hour):
		return nil, api.ErrRange
	}
	return known.spans(func(t truth) int { return t.sizes[hour] }), api.OK
}

// Rates returns what the rates of a cloth can be.
func Rates(c api.Cloth) ([]api.Span, api.Errno) {
	known, e := open(c)
	if e != api.OK {
		return nil, e
	}
	return known.spans(func(t truth) int { return t.rate }), api.OK
}

// Below returns from which hours on a quantity is at most a limit.
func Below(c api.Cloth, what api.ClothWhat, limit int) (surely, possibly int, e api.Errno) {
	known, e := open(c)
	switch {
	case e != api.OK:
		return 0, 0, e
	case !validWhat(what):
		return 0, 0, api.ErrNone
	case !valid.Within(0, api.MaxClothSize, limit):
		return 0, 0, api.ErrRange
	}
	reached := known[what].byHour()
	surely = firstHour(func(hour int) bool { return reached[hour].High <= limit })
	possibly = firstHour(func(hour int) bool { return reached[hour].Low <= limit })
	return surely, possibly, api.OK
}

// firstHour returns the first hour at which a condition holds, and the number behind the last hour if there is none.
func firstHour(holds func(hour int) bool) int {
	for hour := range hours {
		if holds(hour) {
			return hour
		}
	}
	return hours
}

// Fits reports whether a measuring is right.
func Fits(c api.Cloth, m api.ClothMeasure) (surely, possibly bool, e api.Errno) {
	known, e := open(c)
	switch {
	case e != api.OK:
		return false, false, e
	case !validMeasure(m):
		return false, false, api.ErrArg
	}
	surely = true
	for t := range known[m.What].truths() {
		fits := t.fits(m)
		surely = surely && fits
		possibly = possibly || fits
	}
	return surely, possibly, api.OK
}

// Wrong returns the fewest measurings that must be wrong.
func Wrong(c api.Cloth) ([]int, api.Errno) {
	if e := Check(c); e != api.OK {
		return nil, e
	}
	// No measuring is of two quantities, so the smallest list of each makes the smallest list of all.
	var list []int
	for _, q := range split(c) {
		list = append(list, q.wrong()...)
	}
	if len(list) == 0 {
		return nil, api.ErrTwice
	}
	slices.Sort(list)
	return list, api.OK
}

// Look returns at which hour it is best to measure.
func Look(c api.Cloth, what api.ClothWhat, off int) (hour, left int, e api.Errno) {
	known, e := open(c)
	switch {
	case e != api.OK:
		return 0, 0, e
	case !validWhat(what):
		return 0, 0, api.ErrNone
	case !valid.Within(0, api.MaxClothOff, off):
		return 0, 0, api.ErrRange
	}
	truths := slices.Collect(known[what].truths())
	left = len(truths)
	for h := range hours {
		if n := mostLeft(truths, h, off); n < left {
			hour, left = h, n
		}
	}
	if left == len(truths) {
		return 0, 0, api.ErrTwice
	}
	return hour, left, api.OK
}

// mostLeft returns how many of some truths one reading at an hour leaves at most.
func mostLeft(truths []truth, hour, off int) int {
	var sizes []int
	for _, t := range truths {
		sizes = append(sizes, t.sizes[hour])
	}
	slices.Sort(sizes)
	// One reading can stand for all sizes that are no further apart than twice the off.
	most, low := 0, 0
	for high, size := range sizes {
		for size-sizes[low] > 2*off {
			low++
		}
		most = max(most, high-low+1)
	}
	return most
}

// Yarns returns of which yarns a cloth can be.
func Yarns(c api.Cloth, yarns [][]api.Span) ([]int, api.Errno) {
	e := Check(c)
	switch {
	case e != api.OK:
		return nil, e
	case len(yarns) > api.MaxClothYarns:
		return nil, api.ErrFull
	case !valid.All(validYarn, yarns...):
		return nil, api.ErrRange
	}
	var list []int
	for i, rates := range yarns {
		if split(spun(c, rates)).possible() {
			list = append(list, i)
		}
	}
	return list, api.OK
}

// spun returns a cloth with the rates of another yarn.
func spun(c api.Cloth, rates []api.Span) api.Cloth {
	tracks := make([]api.ClothTrack, len(c.Tracks))
	copy(tracks, c.Tracks)
	for i, rate := range rates {
		tracks[i].Rate = rate
	}
	return api.Cloth{Tracks: tracks, Measures: c.Measures}
}

// Hours returns for how many hours a cloth can have been fulled.
func Hours(c api.Cloth, now []api.Span) ([]int, api.Errno) {
	known, e := open(c)
	switch {
	case e != api.OK:
		return nil, e
	case len(now) != whats || !valid.All(validSize, now...):
		return nil, api.ErrRange
	}
	var can [whats][hours]bool
	for i, q := range known {
		can[i] = q.hoursIn(now[i])
	}
	var list []int
nextHour:
	for hour := range hours {
		for _, at := range can {
			if !at[hour] {
				continue nextHour
			}
		}
		list = append(list, hour)
	}
	if len(list) == 0 {
		return nil, api.ErrNone
	}
	return list, api.OK
}

// Sewn reports whether a cloth is two other ones sewn together.
func Sewn(parts [2]api.Cloth, whole api.Cloth, seam int) (surely, possibly bool, e api.Errno) {
	var known [3]quantities
	for i, c := range []api.Cloth{parts[0], parts[1], whole} {
		if known[i], e = open(c); e != api.OK {
			return false, false, e
		}
	}
	if !valid.Within(0, api.MaxClothSeam, seam) {
		return false, false, api.ErrRange
	}
	joins := [whats]join{
		api.ClothLong:  func(a, b int) (int, bool) { return a + b - seam, true },
		api.ClothWide:  func(a, b int) (int, bool) { return a, a == b },
		api.ClothHeavy: func(a, b int) (int, bool) { return a + b, true },
	}
	surely, possibly = true, true
	for what, sew := range joins {
		s, p := sew.judge(known[0][what].firsts(), known[1][what].firsts(), known[2][what].firsts())
		surely = surely && s
		possibly = possibly && p
	}
	return surely, possibly, api.OK
}

// join returns what a quantity of two cloths that are sewn together is, and whether they can be sewn.
type join func(a, b int) (size int, can bool)

// judge reports whether a quantity of the whole is what the two parts make, by what all three can be.
func (sew join) judge(first, second, whole map[int]bool) (surely, possibly bool) {
	surely = len(whole) == 1
	for a := range first {
		for b := range second {
			size, can := sew(a, b)
			fits := can && whole[size]
			surely = surely && fits
			possibly = possibly || fits
		}
	}
	return surely, possibly
}

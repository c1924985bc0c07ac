package stream

import (
	"iter"
	"slices"
	"sort"

	"walkmill/api"
)

// valley is a mill with the stream that fills its pond.
type valley struct {
	api.StreamMill
	flows []api.Span
}

// moment is how high the pond stands before an hour.
type moment struct{ hour, level int }

// begin returns the moment before the first hour in the truth with the least water.
func (v valley) begin() moment { return moment{level: v.Now.Low} }

// fill returns how high the pond stands after some water came.
func (v valley) fill(level, flow int) int { return min(level+flow, v.Holds) }

// work returns how high the pond stands after an hour with so much water and so many hammers, and whether they had enough.
func (v valley) work(level, flow, hammers int) (left int, enough bool) {
	left = v.fill(level, flow) - hammers*v.Takes
	return left, left >= 0
}

// next returns the moment after an hour in which the least water comes, with no more hammers than have enough.
func (v valley) next(at moment, hammers int) moment {
	left, _ := v.work(at.level, v.flows[at.hour].Low, hammers)
	return moment{at.hour + 1, left}
}

// levels yields how high the pond stands at the end of each hour that has enough water, up to the first one that has not, where just this end of each span is true.
func (v valley) levels(plan []int, end func(api.Span) int) iter.Seq[int] {
	return func(yield func(int) bool) {
		level := end(v.Now)
		for hour, hammers := range plan {
			left, enough := v.work(level, end(v.flows[hour]), hammers)
			if !enough || !yield(left) {
				return
			}
			level = left
		}
	}
}

// lowest yields the levels of the truth with the least water: in no other truth the pond is lower.
func (v valley) lowest(plan []int) iter.Seq[int] {
	return v.levels(plan, func(s api.Span) int { return s.Low })
}

// highest yields the levels of the truth with the most water: in no other truth the pond is higher.
func (v valley) highest(plan []int) iter.Seq[int] {
	return v.levels(plan, func(s api.Span) int { return s.High })
}

// right reports whether a plan surely is right.
func (v valley) right(plan []int) bool { return count(v.lowest(plan)) == len(plan) }

// steady returns the plan in which so many hammers go from an hour on, and none before.
func (v valley) steady(hammers, from int) []int {
	plan := make([]int, len(v.flows))
	for hour := range plan {
		if hour >= from {
			plan[hour] = hammers
		}
	}
	return plan
}

// busiest yields how many hammers go in each hour from a moment on, if in each of them as many go as surely can.
// No plan has more hammers up to any hour: water that is used at once cannot run over the weir later, and what is left is too little for one hammer more.
func (v valley) busiest(from moment) iter.Seq[int] {
	return func(yield func(int) bool) {
		for at := from; at.hour < len(v.flows); {
			hammers := v.Hammers
			if v.Takes > 0 {
				hammers = min(hammers, v.fill(at.level, v.flows[at.hour].Low)/v.Takes)
			}
			if !yield(hammers) {
				return
			}
			at = v.next(at, hammers)
		}
	}
}

// fewest returns the fewest hammers that can go in the hour of a moment if no fewer are to go from it on than can.
func (v valley) fewest(at moment) int {
	most := total(v.busiest(at))
	hammers := 0
	// As many as can go in this hour would do, so the search ends before any have too little water.
	for hammers+total(v.busiest(v.next(at, hammers))) < most {
		hammers++
	}
	return hammers
}

// stops reports whether there is a truth in which a plan has too little water in its last hour, and enough in all hours before.
func (v valley) stops(plan []int) bool {
	// In the truths that are left after some hours the pond stands at each level from the lowest to the highest one.
	low, high := v.Now.Low, v.Now.High
	last := len(plan) - 1
	for hour, hammers := range plan[:last] {
		var enough bool
		high, enough = v.work(high, v.flows[hour].High, hammers)
		if !enough {
			return false
		}
		low, _ = v.work(low, v.flows[hour].Low, hammers)
		low = max(low, 0)
	}
	_, enough := v.work(low, v.flows[last].Low, plan[last])
	return !enough
}

// copied returns a valley whose stream can be changed without changing this one's.
func (v valley) copied() valley {
	v.flows = slices.Clone(v.flows)
	return v
}

// came returns what can have come in an hour of a plan with which the wheel can have stopped.
func (v valley) came(plan []int, hour int) api.Span {
	other := v.copied()
	can := func(flow int) bool {
		other.flows[hour] = api.Span{Low: flow, High: flow}
		return other.stops(plan)
	}
	s := v.flows[hour]
	for !can(s.Low) {
		s.Low++
	}
	for !can(s.High) {
		s.High--
	}
	return s
}

// lacks returns how much more water in an hour makes a plan surely right, and a number above MaxStreamFlow if no water up to it does.
func (v valley) lacks(plan []int, hour int) int {
	wet := v.copied()
	s := v.flows[hour]
	return sort.Search(api.MaxStreamFlow+1, func(more int) bool {
		wet.flows[hour] = api.Span{Low: s.Low + more, High: s.High + more}
		return wet.right(plan)
	})
}

// miller is the miller upstream, who wants to hold back water from a plan; what is left for him to hold is known moment by moment.
type miller struct {
	valley
	plan  []int
	knows map[moment]int
}

// spare returns how much can be held back in each hour from a moment on: below 0 if the plan has too little as it is.
func (u miller) spare(at moment) int {
	if at.hour == len(u.plan) {
		return api.MaxStreamFlow
	}
	if most, ok := u.knows[at]; ok {
		return most
	}
	tooMuch := func(held int) bool {
		left, enough := u.work(at.level, max(0, u.flows[at.hour].Low-held), u.plan[at.hour])
		return !enough || u.spare(moment{at.hour + 1, left}) < held
	}
	most := sort.Search(api.MaxStreamFlow+1, tooMuch) - 1
	u.knows[at] = most
	return most
}

// count returns how many numbers are yielded, and total their sum.
func count(numbers iter.Seq[int]) int {
	n := 0
	for range numbers {
		n++
	}
	return n
}

func total(numbers iter.Seq[int]) int {
	sum := 0
	for x := range numbers {
		sum += x
	}
	return sum
}

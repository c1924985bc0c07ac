package shear

import (
	"slices"

	"walkmill/api"
)

// low returns the plan of so many cuts at the Low of Need.
func (w work) low(cuts int) []int { return slices.Repeat([]int{w.Need.Low}, cuts) }

// cuts returns the fewest cuts at the Low of Need after which it is enough how high a stretch can be, or one more than there may be.
func (w work) cuts(stretch int, enough func(nap api.Span) bool) int {
	for cuts := range api.MaxShearCuts + 1 {
		if enough(w.by(w.low(cuts)...).ends(stretch)) {
			return cuts
		}
	}
	return api.MaxShearCuts + 1
}

// needs returns how many cuts at the Low of Need a stretch needs, at least and at most.
//
// In no truth nap is higher after a cut more. So the least number is the first one with which it is low enough in some truth, the greatest that with which it is so in all.
func (w work) needs(stretch int) api.Span {
	return api.Span{
		Low:  w.cuts(stretch, func(nap api.Span) bool { return nap.Low <= w.Need.High }),
		High: w.cuts(stretch, func(nap api.Span) bool { return nap.High <= w.Need.High }),
	}
}

// does reports whether the cloth surely is done after a plan.
func (w work) does(plan []int) bool {
	surely, _ := w.by(plan...).even()
	return surely
}

// fewest returns the shortest plan after which the cloth surely is done, the smallest list of several, and whether there is one.
//
// A cut at the Low of Need brings no nap below it, and all nap down to it, or as low as any cut can. So where some cuts do it behind others, as many cuts at the Low of Need do it there too.
func (w work) fewest() (plan []int, found bool) {
	for cuts := range api.MaxShearCuts + 1 {
		plan = w.low(cuts)
		if w.does(plan) {
			return w.smallest(plan), true
		}
	}
	return nil, false
}

// smallest returns the smallest list that does it, of as many cuts as a plan at the Low of Need that does it; this one is written over.
func (w work) smallest(plan []int) []int {
	for cut := range plan {
		plan[cut] = 0
		for !w.does(plan) {
			plan[cut]++
		}
	}
	return plan
}

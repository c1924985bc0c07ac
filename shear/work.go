package shear

import (
	"maps"
	"slices"

	"walkmill/api"
	"walkmill/valid"
)

// blade is a blade of which it is known how much it takes.
type blade struct{ bite, dull int }

// cut returns how high nap is left by a cut of a plan.
func (b blade) cut(number, height, nap int) int {
	takes := max(0, b.bite-number*b.dull)
	return min(nap, max(height, nap-takes))
}

// work is a cloth, the blade with which it is shorn, the plan, and what is left out of it.
type work struct {
	api.ShearCloth
	api.ShearBlade
	plan []int
	// out reports whether a stretch is left out in a cut.
	out func(api.ShearMiss) bool
}

// planned returns the work of a plan in which nothing is left out.
func planned(c api.ShearCloth, b api.ShearBlade, plan ...int) work {
	return work{c, b, plan, func(api.ShearMiss) bool { return false }}
}

// by returns the same work by another plan.
func (w work) by(plan ...int) work {
	w.plan = plan
	return w
}

// without returns the same work in which just one stretch is left out in one cut.
func (w work) without(missed api.ShearMiss) work {
	w.out = func(m api.ShearMiss) bool { return m == missed }
	return w
}

// blades yields what the blade can be.
func (w work) blades(yield func(blade) bool) {
	for bite := w.Bite.Low; bite <= w.Bite.High; bite++ {
		if !yield(blade{bite, w.Dull}) {
			return
		}
	}
}

// stretches returns the stretches for which a condition holds.
func (w work) stretches(holds func(stretch int) bool) []int {
	var list []int
	for stretch := range w.Nap {
		if holds(stretch) {
			list = append(list, stretch)
		}
	}
	return list
}

// after returns how high a stretch can be after the plan if the blade is known.
//
// Of nap that is higher by 1 a cut leaves as much, or 1 more. So there is no gap in what it leaves of nap without a gap.
func (w work) after(b blade, stretch int) api.Span {
	nap := w.Nap[stretch]
	for number, height := range w.plan {
		if !w.out(api.ShearMiss{Cut: number, Stretch: stretch}) {
			nap = api.Span{Low: b.cut(number, height, nap.Low), High: b.cut(number, height, nap.High)}
		}
	}
	return nap
}

// heights returns how high a stretch can be after the plan: each height with the blades that can leave it.
func (w work) heights(stretch int) map[int][]blade {
	heights := map[int][]blade{}
	for b := range w.blades {
		nap := w.after(b, stretch)
		for height := nap.Low; height <= nap.High; height++ {
			heights[height] = append(heights[height], b)
		}
	}
	return heights
}

// ends returns how high a stretch is after the plan, at least and at most.
func (w work) ends(stretch int) api.Span {
	list := slices.Collect(maps.Keys(w.heights(stretch)))
	return api.Span{Low: slices.Min(list), High: slices.Max(list)}
}

// done reports whether all of some stretches lie in Need after the plan, surely and possibly, if the blade is one of some.
func (w work) done(blades []blade, stretches ...int) (surely, possibly bool) {
	all := func(holds func(nap api.Span) bool) func(blade) bool {
		return func(b blade) bool {
			return valid.All(func(stretch int) bool { return holds(w.after(b, stretch)) }, stretches...)
		}
	}
	lies := func(nap api.Span) bool { return valid.Within(w.Need.Low, w.Need.High, nap.Low, nap.High) }
	meets := func(nap api.Span) bool { return nap.Low <= w.Need.High && nap.High >= w.Need.Low }
	return valid.All(all(lies), blades...), slices.ContainsFunc(blades, all(meets))
}

// even reports whether the cloth is done after the plan, surely and possibly.
func (w work) even() (surely, possibly bool) {
	return w.done(slices.Collect(w.blades), w.stretches(func(int) bool { return true })...)
}

// undecided returns with how many heights of a stretch, found after the plan, it is open still whether the cloth is done.
func (w work) undecided(stretch int) int {
	others := w.stretches(func(other int) bool { return other != stretch })
	many := 0
	for height, blades := range w.heights(stretch) {
		surely, possibly := w.done(blades, others...)
		if valid.Within(w.Need.Low, w.Need.High, height) && possibly && !surely {
			many++
		}
	}
	return many
}

// explains reports whether a nap can be found after the plan.
func (w work) explains(nap []int) bool {
	for b := range w.blades {
		found := func(stretch int) bool {
			span := w.after(b, stretch)
			return valid.Within(span.Low, span.High, nap[stretch])
		}
		if len(w.stretches(found)) == len(nap) {
			return true
		}
	}
	return false
}

// misses returns what explains a nap if just one stretch was left out in one cut, ascending.
func (w work) misses(nap []int) []api.ShearMiss {
	var list []api.ShearMiss
	for cut := range w.plan {
		for stretch := range w.Nap {
			missed := api.ShearMiss{Cut: cut, Stretch: stretch}
			if w.without(missed).explains(nap) {
				list = append(list, missed)
			}
		}
	}
	return list
}

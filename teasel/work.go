package teasel

import (
	"iter"
	"slices"

	"walkmill/api"
	"walkmill/valid"
)

// edges are how sharp the rows of a frame are.
type edges [api.MaxTeaselRows]int

// work is what has become of a rack and of a cloth in a truth.
type work struct {
	wears truth
	rows  int // of each frame
	sharp [api.MaxTeaselFrames]edges
	nap   [api.MaxTeaselRows]int // of each stripe
}

// begin returns the work before the first pass.
func (f frames) begin(x truth) work {
	w := work{wears: x, rows: f.rows()}
	for number, frame := range f {
		copy(w.sharp[number][:], frame.Rows)
	}
	return w
}

// after returns the work after some passes more.
func (w work) after(plan ...api.TeaselPass) work {
	for _, p := range plan {
		sharp := &w.sharp[p.Frame]
		for row := range w.rows {
			stripe := row
			if p.Turned {
				stripe = w.rows - 1 - row
			}
			w.nap[stripe] += sharp[row]
			sharp[row] = max(0, sharp[row]-w.wears[p.Frame])
		}
	}
	return w
}

// stripes returns the nap of all stripes.
func (w work) stripes() []int { return w.nap[:w.rows] }

// apart returns how far stripes are apart after a plan.
func (f frames) apart(plan []api.TeaselPass) api.Span {
	return f.ends(func(x truth) int {
		nap := f.begin(x).after(plan...).stripes()
		return slices.Max(nap) - slices.Min(nap)
	})
}

// better returns the first pass of those that make stripes least far apart if one is turned the other way, how far apart they are then, and whether this is less than as it is.
func (f frames) better(plan []api.TeaselPass) (pass, apart int, found bool) {
	apart = f.apart(plan).High
	for number := range plan {
		other := slices.Clone(plan)
		other[number].Turned = !other[number].Turned
		if far := f.apart(other).High; far < apart {
			pass, apart, found = number, far, true
		}
	}
	return pass, apart, found
}

// plans yields the plans of so many passes: the smaller lists first.
func (f frames) plans(passes int) iter.Seq[[]api.TeaselPass] {
	return func(yield func([]api.TeaselPass) bool) {
		if passes == 0 {
			yield(nil)
			return
		}
		for plan := range f.plans(passes - 1) {
			for number := range f {
				for _, turned := range []bool{false, true} {
					if !yield(append(slices.Clip(plan), api.TeaselPass{Frame: number, Turned: turned})) {
						return
					}
				}
			}
		}
	}
}

// fewest returns the shortest plan, the smallest list of several, after which all nap surely is from need to harm, and whether there is one.
func (f frames) fewest(need, harm int) (plan []api.TeaselPass, found bool) {
	for passes := range api.MaxTeaselTries + 1 {
		for plan := range f.plans(passes) {
			if f.surely(func(x truth) bool { return valid.Within(need, harm, f.begin(x).after(plan...).stripes()...) }) {
				return plan, true
			}
		}
	}
	return nil, false
}

// explain reports whether the stripes can have a nap after a plan.
func (f frames) explain(plan []api.TeaselPass, nap []int) bool {
	return f.possibly(func(x truth) bool { return slices.Equal(f.begin(x).after(plan...).stripes(), nap) })
}

// with returns a rack in which a row is just so sharp at first.
func (f frames) with(r api.TeaselRow, sharp int) frames {
	other := slices.Clone(f)
	rows := slices.Clone(f[r.Frame].Rows)
	rows[r.Row] = sharp
	other[r.Frame].Rows = rows
	return other
}

// guilty returns the rows that explain a nap if one of them alone was less sharp at first.
func (f frames) guilty(plan []api.TeaselPass, nap []int) []api.TeaselRow {
	var list []api.TeaselRow
nextRow:
	for _, r := range f.list() {
		for sharp := range f[r.Frame].Rows[r.Row] {
			if f.with(r, sharp).explain(plan, nap) {
				list = append(list, r)
				continue nextRow
			}
		}
	}
	return list
}

package shear_test

import (
	"iter"
	"slices"
	"testing"

	"walkmill/api"
	"walkmill/samples"
	"walkmill/shear"
)

// to, cloth, blade, job and miss write spans and what is made of them shortly.
func to(low, high int) api.Span { return api.Span{Low: low, High: high} }

func cloth(need api.Span, nap ...api.Span) api.ShearCloth {
	return api.ShearCloth{Nap: nap, Need: need}
}

func blade(bite api.Span, dull int) api.ShearBlade { return api.ShearBlade{Bite: bite, Dull: dull} }

func job(hours, due int) api.ShearJob { return api.ShearJob{Hours: hours, Due: due} }

func miss(cut, stretch int) api.ShearMiss { return api.ShearMiss{Cut: cut, Stretch: stretch} }

// set and spans are some integers and spans, jobs some cloths that wait, misses some misses.
func set(list ...int) []int { return list }

func spans(list ...api.Span) []api.Span { return list }

func jobs(list ...api.ShearJob) []api.ShearJob { return list }

func misses(list ...api.ShearMiss) []api.ShearMiss { return list }

// found is a plan, and what was found after it.
func found(plan []int, nap ...int) api.ShearDone { return api.ShearDone{Plan: plan, Nap: nap} }

// rough and keen are the cloth and the blade of the chapter's examples.
func rough() api.ShearCloth { return cloth(to(28, 32), to(50, 52), to(40, 44), to(30, 30)) }

func keen() api.ShearBlade { return blade(to(10, 12), 2) }

// noCut stands for the cut in which a stretch is left out if it is left out in none.
const noCut = -1

// cutDown is how high nap is after a plan, if it is left out in one cut: the blade takes 1 after the other of what is higher than it is set.
func cutDown(b api.ShearBlade, bite, nap int, plan []int, out int) int {
	for cut, height := range plan {
		if cut == out {
			continue
		}
		for takes := bite - cut*b.Dull; takes > 0 && nap > height; takes-- {
			nap--
		}
	}
	return nap
}

// outOf is the cut in which a stretch is left out by a miss.
func outOf(m api.ShearMiss, stretch int) int {
	if m.Stretch != stretch {
		return noCut
	}
	return m.Cut
}

// none is no miss.
func none() api.ShearMiss { return miss(noCut, noCut) }

// truth is how high all stretches are, and how much the blade takes.
type truth struct {
	nap  []int
	bite int
}

// after is how high all stretches are after a plan with a miss.
func (x truth) after(b api.ShearBlade, plan []int, m api.ShearMiss) []int {
	var list []int
	for stretch, nap := range x.nap {
		list = append(list, cutDown(b, x.bite, nap, plan, outOf(m, stretch)))
	}
	return list
}

// truths yields all truths of a cloth and a blade.
func truths(c api.ShearCloth, b api.ShearBlade) iter.Seq[truth] {
	return func(yield func(truth) bool) {
		for list := range samples.Lists(append(slices.Clone(c.Nap), b.Bite)...) {
			last := len(list) - 1
			if !yield(truth{list[:last], list[last]}) {
				return
			}
		}
	}
}

// lies reports whether all heights lie in what a cloth needs.
func lies(c api.ShearCloth, heights ...int) bool {
	return !slices.ContainsFunc(heights, func(height int) bool { return height < c.Need.Low || height > c.Need.High })
}

// chances are all heights that each stretch can have after a plan if it is known how much the blade takes. Nothing else ties stretches to each other, so each height can come with all heights of the others.
type chances [][]int

// chancesOf are the chances for each bite, the smallest one first.
func chancesOf(c api.ShearCloth, b api.ShearBlade, plan []int, m api.ShearMiss) []chances {
	var list []chances
	for bite := b.Bite.Low; bite <= b.Bite.High; bite++ {
		var all chances
		for stretch, nap := range c.Nap {
			var heights []int
			for high := nap.Low; high <= nap.High; high++ {
				heights = append(heights, cutDown(b, bite, high, plan, outOf(m, stretch)))
			}
			all = append(all, heights)
		}
		list = append(list, all)
	}
	return list
}

// surely reports whether all stretches of a cloth surely have heights that it needs, and possibly whether they can.
func (x chances) surely(c api.ShearCloth) bool { return lies(c, slices.Concat(x...)...) }

func (x chances) possibly(c api.ShearCloth) bool {
	for _, heights := range x {
		if !slices.ContainsFunc(heights, func(height int) bool { return lies(c, height) }) {
			return false
		}
	}
	return true
}

// explains reports whether the stretches can be found so high.
func (x chances) explains(nap []int) bool {
	for stretch, heights := range x {
		if !slices.Contains(heights, nap[stretch]) {
			return false
		}
	}
	return true
}

// measured are the chances if a stretch is found to be so high, and whether it can be.
func (x chances) measured(stretch, height int) (chances, bool) {
	can := slices.Contains(x[stretch], height)
	x = slices.Clone(x)
	x[stretch] = set(height)
	return x, can
}

// evenOf reports whether a cloth is done with one of some chances, surely and possibly; there must be one.
func evenOf(c api.ShearCloth, list []chances) (surely, possibly bool) {
	surely = true
	for _, x := range list {
		surely = surely && x.surely(c)
		possibly = possibly || x.possibly(c)
	}
	return surely, possibly
}

// does reports whether a cloth surely is done after a plan.
func does(c api.ShearCloth, b api.ShearBlade, plan []int) bool {
	surely, _ := evenOf(c, chancesOf(c, b, plan, none()))
	return surely
}

// undecidedOf are the heights of a stretch with which it is open whether a cloth is done.
func undecidedOf(c api.ShearCloth, list []chances, stretch int) []int {
	var open []int
	for height := range api.MaxShearNap + 1 {
		var left []chances
		for _, x := range list {
			if known, can := x.measured(stretch, height); can {
				left = append(left, known)
			}
		}
		if len(left) == 0 {
			continue
		}
		if surely, possibly := evenOf(c, left); possibly && !surely {
			open = append(open, height)
		}
	}
	return open
}

// missedOf are the misses with which the stretches can be found so high.
func missedOf(c api.ShearCloth, b api.ShearBlade, plan, nap []int) []api.ShearMiss {
	var list []api.ShearMiss
	for cut := range plan {
		for stretch := range c.Nap {
			if canBe(c, b, plan, nap, miss(cut, stretch)) {
				list = append(list, miss(cut, stretch))
			}
		}
	}
	return list
}

// canBe reports whether the stretches can be found so high after a plan with a miss.
func canBe(c api.ShearCloth, b api.ShearBlade, plan, nap []int, m api.ShearMiss) bool {
	return slices.ContainsFunc(chancesOf(c, b, plan, m), func(x chances) bool { return x.explains(nap) })
}

// cutsOf is how many cuts at the Low of Need a stretch needs in a truth.
func cutsOf(c api.ShearCloth, b api.ShearBlade, bite, nap int) int {
	for cut := range api.MaxShearCuts {
		if nap <= c.Need.High {
			return cut
		}
		for takes := bite - cut*b.Dull; takes > 0 && nap > c.Need.Low; takes-- {
			nap--
		}
	}
	if nap <= c.Need.High {
		return api.MaxShearCuts
	}
	return api.MaxShearCuts + 1
}

// sharesOf yields all lists of first stretches of so many shearmen.
func sharesOf(men, stretches int) iter.Seq[[]int] {
	return func(yield func([]int) bool) {
		for list := range samples.Lists(slices.Repeat(spans(to(0, stretches)), men)...) {
			if list[0] == 0 && slices.IsSorted(list) && !yield(list) {
				return
			}
		}
	}
}

// takers are the shearmen who take a stretch: those whose first stretch is no later, and the next one's is.
func takers(from []int, stretch int) []int {
	var list []int
	for man, first := range from {
		if first <= stretch && (man == len(from)-1 || from[man+1] > stretch) {
			list = append(list, man)
		}
	}
	return list
}

// greatest is the greatest sum of costs of a shearman.
func greatest(costs, from []int) int {
	sums := make([]int, len(from))
	for stretch, cost := range costs {
		for _, man := range takers(from, stretch) {
			sums[man] += cost
		}
	}
	return slices.Max(sums)
}

// latest is by how many hours the latest one of some cloths is late in an order.
func latest(list []api.ShearJob, order []int) int {
	most := 0
	for place, number := range order {
		done := 0
		for _, other := range order[:place+1] {
			done += list[other].Hours
		}
		most = max(most, done-list[number].Due)
	}
	return most
}

// dice make what is tried here.
type dice struct{ samples.Dice }

// measure says which cloths and blades are made: how many stretches, how high and how far apart these are, how much the blade takes, how little both are known, how dull the blade becomes, and how many cuts a plan has.
type measure struct{ stretches, nap, apart, doubt, bite, waver, dull, cuts int }

// small cloths have few truths and plans; great ones are of any valid size.
var (
	small = measure{stretches: 3, nap: 12, apart: 4, doubt: 2, bite: 4, waver: 2, dull: 1, cuts: 3}
	great = measure{stretches: api.MaxShearStretches, nap: api.MaxShearNap, apart: 30, doubt: api.MaxShearDoubt, bite: api.MaxShearBite, waver: api.MaxShearWaver, dull: api.MaxShearDull, cuts: api.MaxShearCuts}
)

// shop makes a cloth, a blade and a plan, and what some truth has after it: the cloth needs about that.
func (d *dice) shop(z measure) (c api.ShearCloth, b api.ShearBlade, plan []int, x truth) {
	high := d.From(0, z.nap)
	for range d.From(1, z.stretches) {
		c.Nap = append(c.Nap, d.Span(max(0, high-z.apart), high, z.doubt))
	}
	b = blade(d.Span(0, z.bite, z.waver), d.From(0, z.dull))
	for range d.From(0, z.cuts) {
		plan = append(plan, d.From(max(0, high-z.apart-z.doubt), high))
	}
	x = d.truth(c, b)
	left := x.after(b, plan, none())
	near := 1 + z.apart/4
	c.Need.Low = max(0, slices.Min(left)-d.From(-1, near))
	c.Need.High = min(max(c.Need.Low, slices.Max(left)+d.From(-1, near)), api.MaxShearNap)
	c.Need.Low = min(c.Need.Low, c.Need.High)
	return c, b, plan, x
}

// steep makes a cloth that must be shorn lower than all that it is, if it can be, and a blade.
func (d *dice) steep(z measure) (api.ShearCloth, api.ShearBlade) {
	c, b, _, _ := d.shop(z)
	low := c.Nap[0].Low
	for _, nap := range c.Nap {
		low = min(low, nap.Low)
	}
	c.Need = d.Span(0, low, z.apart)
	return c, b
}

// truth makes a truth of a cloth and a blade.
func (d *dice) truth(c api.ShearCloth, b api.ShearBlade) truth {
	x := truth{bite: d.From(b.Bite.Low, b.Bite.High)}
	for _, nap := range c.Nap {
		x.nap = append(x.nap, d.From(nap.Low, nap.High))
	}
	return x
}

// jobs makes cloths that wait.
func (d *dice) jobs(most, hours, due int) []api.ShearJob {
	var list []api.ShearJob
	for range d.From(0, most) {
		list = append(list, job(d.From(1, hours), d.From(0, due)))
	}
	return list
}

// after and needs ask what must not have an error.
func after(t *testing.T, c api.ShearCloth, b api.ShearBlade, plan []int) []api.Span {
	t.Helper()
	list, e := shear.After(c, b, plan)
	if e != api.OK || len(list) != len(c.Nap) {
		t.Fatalf("After(%v, %v, %v) = %v, %d", c, b, plan, list, e)
	}
	return list
}

func needs(t *testing.T, c api.ShearCloth, b api.ShearBlade) []api.Span {
	t.Helper()
	list, e := shear.Cuts(c, b)
	if e != api.OK || len(list) != len(c.Nap) {
		t.Fatalf("Cuts(%v, %v) = %v, %d", c, b, list, e)
	}
	return list
}

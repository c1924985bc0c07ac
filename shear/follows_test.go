package shear_test

import (
	"fmt"
	"slices"
	"testing"

	"walkmill/api"
	"walkmill/samples"
	"walkmill/shear"
)

// tries is how many cloths a test of what follows looks at.
const tries = 300

// TestAfterOfAllTruths is for P11.2 and P11.10: from the least to the greatest height over all truths, so that in each truth the nap lies there.
func TestAfterOfAllTruths(t *testing.T) {
	d := dice{1}
	seen := samples.Cases{}
	for i := range tries {
		c, b, plan, x := d.shop([]measure{small, great}[i%2])
		spans := after(t, c, b, plan)
		for stretch, nap := range c.Nap {
			var want api.Span
			n := 0
			for list := range samples.Lists(nap, b.Bite) { // what other stretches are makes no difference
				want = samples.Wider(want, cutDown(b, list[1], list[0], plan, noCut), n)
				n++
			}
			if spans[stretch] != want {
				t.Fatalf("After(%v, %v, %v) = %v, not %v of %d", c, b, plan, spans, want, stretch)
			}
			seen[fmt.Sprint("a span: ", want.Low < want.High, ", cut: ", want != nap)]++
		}
		for stretch, height := range x.after(b, plan, none()) {
			if !samples.Lies(to(height, height), spans[stretch]) {
				t.Fatalf("After(%v, %v, %v) = %v, in truth %v: %d", c, b, plan, spans, x, height)
			}
		}
	}
	seen.All(t, "a span: true, cut: true", "a span: false, cut: true", "a span: true, cut: false", "a span: false, cut: false")
}

// TestAfterInEachTruth is for P11.2 and P11.10: the same of small cloths, truth by truth, with all stretches at once.
func TestAfterInEachTruth(t *testing.T) {
	d := dice{2}
	for range tries {
		c, b, plan, _ := d.shop(small)
		want := make([]api.Span, len(c.Nap))
		n := 0
		for x := range truths(c, b) {
			for stretch, height := range x.after(b, plan, none()) {
				want[stretch] = samples.Wider(want[stretch], height, n)
			}
			n++
		}
		samples.List(t, fmt.Sprint("After of ", c, b, plan), want, api.OK)(shear.After(c, b, plan))
	}
}

// TestACutMore is for P11.10 and P11.11: with one cut more no end is greater; one that is set to the Low of Need, or higher, brings no nap below it.
func TestACutMore(t *testing.T) {
	d := dice{3}
	seen := samples.Cases{}
	for i := range tries {
		c, b, plan, _ := d.shop([]measure{small, great}[i%2])
		if len(plan) == api.MaxShearCuts {
			plan = plan[1:]
		}
		height := d.From(0, api.MaxShearNap)
		if i%3 == 0 {
			height = d.From(c.Need.Low, c.Need.High)
		}
		before, behind := after(t, c, b, plan), after(t, c, b, append(slices.Clone(plan), height))
		for stretch, was := range before {
			is := behind[stretch]
			if is.Low > was.Low || is.High > was.High {
				t.Fatalf("After(%v, %v, %v) = %v, with %d too %v", c, b, plan, before, height, behind)
			}
			if height >= c.Need.Low && is.Low < min(was.Low, c.Need.Low) {
				t.Fatalf("After(%v, %v, %v) = %v, with %d too %v: below %d", c, b, plan, before, height, behind, c.Need.Low)
			}
			seen[fmt.Sprint("less: ", is != was, ", not below Need: ", height >= c.Need.Low)]++
		}
	}
	seen.All(t, "less: true, not below Need: true", "less: true, not below Need: false", "less: false, not below Need: true")
}

// TestEvenOfAllTruths is for P11.3 and P11.10: done in all truths of small cloths, and in one at least.
func TestEvenOfAllTruths(t *testing.T) {
	d := dice{4}
	seen := samples.Cases{}
	for range 2 * tries {
		c, b, plan, _ := d.shop(small)
		surely, possibly := true, false
		for x := range truths(c, b) {
			done := lies(c, x.after(b, plan, none())...)
			surely, possibly = surely && done, possibly || done
		}
		samples.Two(t, fmt.Sprint("Even of ", c, b, plan), surely, possibly, api.OK)(shear.Even(c, b, plan))
		seen[fmt.Sprint(surely, possibly)]++
		if each(c, b, plan) && !possibly {
			seen["each stretch can be, but not all"]++
		}
	}
	seen.All(t, "true true", "false true", "false false", "each stretch can be, but not all")
}

// each reports whether each stretch by itself can lie in what is needed after a plan.
func each(c api.ShearCloth, b api.ShearBlade, plan []int) bool {
	for _, nap := range c.Nap {
		one := cloth(c.Need, nap)
		if _, possibly := evenOf(one, chancesOf(one, b, plan, none())); !possibly {
			return false
		}
	}
	return true
}

// TestGreatEven is for P11.3 and P11.10: the same of cloths of any size, bite by bite; what surely is done is so in a truth.
func TestGreatEven(t *testing.T) {
	d := dice{5}
	seen := samples.Cases{}
	for range 3 * tries {
		c, b, plan, x := d.shop(great)
		surely, possibly := evenOf(c, chancesOf(c, b, plan, none()))
		samples.Two(t, fmt.Sprint("Even of ", c, b, plan), surely, possibly, api.OK)(shear.Even(c, b, plan))
		done := lies(c, x.after(b, plan, none())...)
		if surely && !done || done && !possibly {
			t.Fatalf("Even(%v, %v, %v) = %v, %v, in truth %v: %v", c, b, plan, surely, possibly, x, done)
		}
		seen[fmt.Sprint(surely, possibly)]++
	}
	seen.All(t, "true true", "false true", "false false")
}

// TestFewestOfAllPlans is for P11.4 and P11.11: the first one of all plans of small cloths, from shorter to longer ones, after which the cloth surely is done.
func TestFewestOfAllPlans(t *testing.T) {
	d := dice{6}
	seen := samples.Cases{}
	z := measure{stretches: 2, nap: 7, apart: 2, doubt: 1, bite: 3, waver: 1, dull: 1, cuts: 4}
	for i := range 2 * tries {
		c, b, _, _ := d.shop(z)
		if i%2 == 0 {
			c, b = d.steep(z)
		}
		want, many := fewestOf(c, b)
		name := fmt.Sprint("Fewest of ", c, b)
		if many == 0 {
			samples.List[int](t, name, nil, api.ErrState)(shear.Fewest(c, b))
			seen["none"]++
			continue
		}
		samples.List(t, name, want, api.OK)(shear.Fewest(c, b))
		seen[fmt.Sprint(len(want), " cuts, one plan: ", many == 1)]++
		seen[fmt.Sprint("below Need: ", len(want) > 0 && want[0] < c.Need.Low)]++
	}
	seen.All(t, "none", "0 cuts, one plan: true", "1 cuts, one plan: true", "1 cuts, one plan: false", "2 cuts, one plan: false", "3 cuts, one plan: false", "4 cuts, one plan: false", "5 cuts, one plan: false", "below Need: true")
}

// fewestOf is the first one of all plans, from shorter to longer ones and then as lists are compared, after which a cloth surely is done, and how many there are of its length. Nothing is cut by a blade that is set to the greatest height of the nap, or above it.
func fewestOf(c api.ShearCloth, b api.ShearBlade) (first []int, many int) {
	high := 0
	for _, nap := range c.Nap {
		high = max(high, nap.High)
	}
	for cuts := range api.MaxShearCuts + 1 {
		for plan := range samples.Lists(slices.Repeat(spans(to(0, high)), cuts)...) {
			if does(c, b, plan) {
				if many == 0 {
					first = plan
				}
				many++
			}
		}
		if many > 0 {
			return first, many
		}
	}
	return nil, 0
}

// TestGreatFewest is for P11.4 and P11.11: of cloths of any size, whatever is true; no shorter plan that is tried does it, nor a smaller list of as many cuts.
func TestGreatFewest(t *testing.T) {
	d := dice{7}
	seen := samples.Cases{}
	for i := range 2 * tries {
		c, b, _, _ := d.shop(great)
		if i%2 == 0 {
			c, b = d.steep(great)
		}
		plan, e := shear.Fewest(c, b)
		most := len(plan)
		if e == api.ErrState {
			most = api.MaxShearCuts + 1
		} else if e != api.OK || !does(c, b, plan) {
			t.Fatalf("Fewest(%v, %v) = %v, %d", c, b, plan, e)
		}
		if most > 0 {
			for range 20 {
				if other := d.plan(c, d.From(0, most-1)); does(c, b, other) {
					t.Fatalf("Fewest(%v, %v) = %v, %d, but %v does it", c, b, plan, e, other)
				}
			}
		}
		for cut, height := range plan {
			for range 20 {
				other := slices.Concat(plan[:cut], set(d.From(0, max(0, height-1))), d.plan(c, len(plan)-cut-1))
				if slices.Compare(other, plan) < 0 && does(c, b, other) {
					t.Fatalf("Fewest(%v, %v) = %v, but %v does it", c, b, plan, other)
				}
			}
		}
		seen[fmt.Sprint(len(plan), " cuts, error ", e)]++
	}
	seen.All(t, "0 cuts, error 9", "0 cuts, error 0", "1 cuts, error 0", "2 cuts, error 0", "3 cuts, error 0", "4 cuts, error 0", "5 cuts, error 0")
}

// TestCutsOfAllTruths is for P11.5: from the least to the greatest number over all truths.
func TestCutsOfAllTruths(t *testing.T) {
	d := dice{8}
	seen := samples.Cases{}
	for i := range 2 * tries {
		z := []measure{small, great}[i%2]
		c, b, _, _ := d.shop(z)
		if i%4 > 1 {
			c, b = d.steep(z)
		}
		list := needs(t, c, b)
		for stretch, nap := range c.Nap {
			var want api.Span
			n := 0
			for x := range samples.Lists(nap, b.Bite) {
				want = samples.Wider(want, cutsOf(c, b, x[1], x[0]), n)
				n++
			}
			if list[stretch] != want {
				t.Fatalf("Cuts(%v, %v) = %v, not %v of %d", c, b, list, want, stretch)
			}
			seen[fmt.Sprint(want)]++
		}
	}
	seen.All(t, "{0 0}", "{1 1}", "{2 2}", "{3 3}", "{4 4}", "{5 5}", "{6 6}", "{0 1}", "{1 2}", "{2 3}", "{1 6}", "{5 6}")
}

// costsOf is what each stretch costs shearmen, and whether all can be shorn.
func costsOf(t *testing.T, c api.ShearCloth, b api.ShearBlade) (costs []int, can bool) {
	t.Helper()
	for _, need := range needs(t, c, b) {
		costs = append(costs, need.High)
	}
	return costs, slices.Max(costs) <= api.MaxShearCuts
}

// TestSideOfAllShares is for P11.6 and P11.12: the first one of all lists by which the greatest sum is the least; each stretch is taken once, and with one man more the sum is not greater.
func TestSideOfAllShares(t *testing.T) {
	d := dice{9}
	seen := samples.Cases{}
	for i := range tries {
		c, b := d.costly(i%4 == 0)
		costs, can := costsOf(t, c, b)
		before := 0
		for men := 1; men <= api.MaxShearMen; men++ {
			from, most, e := shear.Side(c, b, men)
			if !can {
				if len(from) > 0 || most != 0 || e != api.ErrState {
					t.Fatalf("Side(%v, %v, %d) = %v, %d, %d", c, b, men, from, most, e)
				}
				seen["none"]++
				continue
			}
			var want []int
			for list := range sharesOf(men, len(costs)) {
				if want == nil || greatest(costs, list) < greatest(costs, want) {
					want = list
				}
			}
			if !slices.Equal(from, want) || most != greatest(costs, want) || e != api.OK {
				t.Fatalf("Side(%v, %v, %d) = %v, %d, %d, not %v of %v", c, b, men, from, most, e, want, costs)
			}
			for stretch := range costs {
				if len(takers(from, stretch)) != 1 {
					t.Fatalf("Side(%v, %v, %d) = %v: %d is taken by %v", c, b, men, from, stretch, takers(from, stretch))
				}
			}
			if men > 1 && most > before {
				t.Fatalf("Side(%v, %v, %d) has %d, with one man less %d", c, b, men, most, before)
			}
			before = most
			seen[fmt.Sprint(men, " men, the first has none: ", men > 1 && from[1] == 0)]++
		}
	}
	seen.All(t, "none", "1 men, the first has none: false", "2 men, the first has none: true", "2 men, the first has none: false", "4 men, the first has none: true", "4 men, the first has none: false")
}

// costly makes a cloth whose stretches need any numbers of cuts, and more than there may be if it is too high.
func (d *dice) costly(high bool) (api.ShearCloth, api.ShearBlade) {
	most := api.MaxShearCuts
	if high {
		most++
	}
	c := cloth(to(10, 19))
	for range d.From(1, api.MaxShearStretches) {
		low := 10 + 10*d.From(0, most)
		c.Nap = append(c.Nap, to(low, low+d.From(0, 9)))
	}
	return c, blade(to(10, 10), 0)
}

// TestLookOfAllTruths is for P11.7 and P11.13: the first one of the stretches with the fewest heights with which it is open still, over all truths of small cloths; with all others it is decided.
func TestLookOfAllTruths(t *testing.T) {
	d := dice{10}
	seen := samples.Cases{}
	for range 3 * tries {
		c, b, plan, _ := d.shop(small)
		name := fmt.Sprint("Look of ", c, b, plan)
		surely, possibly, _ := shear.Even(c, b, plan)
		if surely || !possibly {
			samples.Two(t, name, 0, 0, api.ErrTwice)(shear.Look(c, b, plan))
			seen[fmt.Sprint("decided: ", surely)]++
			continue
		}
		var lefts []int
		for stretch := range c.Nap {
			done, not := map[int]bool{}, map[int]bool{} // by what is found of it
			for x := range truths(c, b) {
				heights := x.after(b, plan, none())
				if lies(c, heights...) {
					done[heights[stretch]] = true
				} else {
					not[heights[stretch]] = true
				}
			}
			left := 0
			for height := range done {
				if not[height] {
					left++
				}
			}
			lefts = append(lefts, left)
		}
		left := slices.Min(lefts)
		stretch := slices.Index(lefts, left)
		samples.Two(t, name, stretch, left, api.OK)(shear.Look(c, b, plan))
		seen[fmt.Sprint("the first: ", stretch == 0, ", all decide: ", left == 0)]++
	}
	seen.All(t, "decided: true", "decided: false", "the first: true, all decide: true", "the first: true, all decide: false", "the first: false, all decide: true", "the first: false, all decide: false")
}

// TestGreatLook is for P11.7 and P11.13: the same of cloths of any size, bite by bite.
func TestGreatLook(t *testing.T) {
	d := dice{11}
	seen := samples.Cases{}
	for range tries {
		c, b, plan, x := d.shop(great)
		list := chancesOf(c, b, plan, none())
		if surely, possibly := evenOf(c, list); surely || !possibly {
			samples.Two(t, fmt.Sprint("Look of ", c, b, plan), 0, 0, api.ErrTwice)(shear.Look(c, b, plan))
			continue
		}
		var open [][]int
		for stretch := range c.Nap {
			open = append(open, undecidedOf(c, list, stretch))
		}
		best := slices.MinFunc(open, func(a, b []int) int { return len(a) - len(b) })
		stretch, left, e := shear.Look(c, b, plan)
		first := slices.IndexFunc(open, func(heights []int) bool { return len(heights) == len(best) })
		if stretch != first || left != len(best) || e != api.OK {
			t.Fatalf("Look(%v, %v, %v) = %d, %d, %d, of %v", c, b, plan, stretch, left, e, open)
		}
		truly := x.after(b, plan, none())[stretch]
		if !slices.Contains(best, truly) {
			decided(t, c, b, plan, stretch, truly)
			seen["the truth decides"]++
		}
		seen[fmt.Sprint("the first: ", stretch == 0, ", all decide: ", left == 0)]++
	}
	seen.All(t, "the truth decides", "the first: true, all decide: true", "the first: true, all decide: false", "the first: false, all decide: true", "the first: false, all decide: false")
}

// decided fails if it is open whether a cloth is done when a stretch is found to be so high.
func decided(t *testing.T, c api.ShearCloth, b api.ShearBlade, plan []int, stretch, height int) {
	t.Helper()
	var left []chances
	for _, x := range chancesOf(c, b, plan, none()) {
		if known, can := x.measured(stretch, height); can {
			left = append(left, known)
		}
	}
	if surely, possibly := evenOf(c, left); possibly && !surely {
		t.Fatalf("%v, %v after %v: it is open with %d at %d", c, b, plan, height, stretch)
	}
}

// TestMissedOfAllTruths is for P11.8 and P11.14: all misses that some truth of a small cloth explains; what truly was left out is among them.
func TestMissedOfAllTruths(t *testing.T) {
	d := dice{12}
	seen := samples.Cases{}
	for i := range 2 * tries {
		c, b, plan, x := d.shop(small)
		nap, truly := d.missed(c, b, plan, x)
		if i%3 == 0 {
			nap = d.spoiled(nap)
			truly = none()
		}
		var want []api.ShearMiss
		without := false
		for x := range truths(c, b) {
			without = without || slices.Equal(x.after(b, plan, none()), nap)
		}
		for cut := range plan {
			for stretch := range c.Nap {
				m := miss(cut, stretch)
				for x := range truths(c, b) {
					if slices.Equal(x.after(b, plan, m), nap) {
						want = append(want, m)
						break
					}
				}
			}
		}
		seen[missing(t, c, b, found(plan, nap...), want, without, truly)]++
	}
	seen.All(t, "without a miss", "no miss", "1 of several cuts", "2 of several cuts", "3 of several cuts", "1 of one cut")
}

// TestGreatMissed is for P11.8 and P11.14: the same of cloths of any size, bite by bite.
func TestGreatMissed(t *testing.T) {
	d := dice{13}
	seen := samples.Cases{}
	for i := range tries {
		c, b, plan, x := d.shop(great)
		nap, truly := d.missed(c, b, plan, x)
		if i%3 == 0 {
			nap = d.spoiled(nap)
			truly = none()
		}
		want := missedOf(c, b, plan, nap)
		seen[missing(t, c, b, found(plan, nap...), want, canBe(c, b, plan, nap, none()), truly)]++
	}
	seen.All(t, "without a miss", "no miss", "1 of several cuts", "2 of several cuts", "1 of one cut")
}

// missing fails unless Missed is as it is said to be; it returns which case this is.
func missing(t *testing.T, c api.ShearCloth, b api.ShearBlade, done api.ShearDone, want []api.ShearMiss, without bool, truly api.ShearMiss) string {
	t.Helper()
	name := fmt.Sprint("Missed of ", c, b, done)
	if without {
		samples.List[api.ShearMiss](t, name, nil, api.ErrTwice)(shear.Missed(c, b, done))
		return "without a miss"
	}
	if truly != none() && !slices.Contains(want, truly) {
		t.Fatalf("%s = %v, in truth %v", name, want, truly)
	}
	if len(want) == 0 {
		samples.List[api.ShearMiss](t, name, nil, api.ErrState)(shear.Missed(c, b, done))
		return "no miss"
	}
	samples.List(t, name, want, api.OK)(shear.Missed(c, b, done))
	if len(done.Plan) > 1 {
		return fmt.Sprint(len(want), " of several cuts")
	}
	return fmt.Sprint(len(want), " of one cut")
}

// missed makes what is found in a truth after a plan of which something was left out, and says what it was.
func (d *dice) missed(c api.ShearCloth, b api.ShearBlade, plan []int, x truth) ([]int, api.ShearMiss) {
	m := none()
	if len(plan) > 0 {
		m = miss(d.From(0, len(plan)-1), d.From(0, len(c.Nap)-1))
	}
	return x.after(b, plan, m), m
}

// spoiled makes a nap that perhaps cannot be found.
func (d *dice) spoiled(nap []int) []int {
	nap = slices.Clone(nap)
	for range 2 {
		place := d.From(0, len(nap)-1)
		nap[place] = max(0, min(nap[place]+d.From(-2, 2), api.MaxShearNap))
	}
	return nap
}

// plan makes a plan of so many cuts, some of them at what a cloth needs.
func (d *dice) plan(c api.ShearCloth, cuts int) []int {
	var plan []int
	for range cuts {
		plan = append(plan, set(c.Need.Low, d.From(c.Need.Low, c.Need.High), d.From(0, c.Need.Low), d.From(0, api.MaxShearNap))[d.From(0, 3)])
	}
	return plan
}

// TestOrderOfAllOrders is for P11.9 and P11.15: the first one of all orders by which the latest one is late by the least; no later than if what is due earlier is shorn earlier.
func TestOrderOfAllOrders(t *testing.T) {
	d := dice{14}
	seen := samples.Cases{}
	for i := range tries {
		list := d.jobs(api.MaxShearJobs-i%3, 9, 30)
		if i%4 == 0 {
			list = d.jobs(5, api.MaxShearHours, api.MaxShearHours)
		}
		orders := samples.Orders(len(list))
		want := slices.MinFunc(orders, func(a, b []int) int { return latest(list, a) - latest(list, b) })
		ordered(t, list, latest(list, want), want...)
		early := samples.UpTo(len(list))
		slices.SortStableFunc(early, func(a, b int) int { return list[a].Due - list[b].Due })
		if latest(list, early) > latest(list, want) {
			t.Fatalf("Order(%v) is late by %d, by the due hours %v by %d", list, latest(list, want), early, latest(list, early))
		}
		seen[fmt.Sprint(len(list), " cloths")]++
		seen[fmt.Sprint("late: ", latest(list, want) > 0, ", as they come: ", slices.IsSorted(want), ", by the due hours: ", slices.Equal(want, early))]++
	}
	seen.All(t, "0 cloths", "1 cloths", "2 cloths", "7 cloths", "late: true, as they come: false, by the due hours: true", "late: true, as they come: false, by the due hours: false", "late: true, as they come: true, by the due hours: false", "late: false, as they come: false, by the due hours: false")
}

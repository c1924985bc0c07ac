package teasel_test

import (
	"fmt"
	"slices"
	"testing"

	"walkmill/api"
	"walkmill/samples"
	"walkmill/teasel"
)

// tries is how many racks a test of what follows looks at.
const tries = 200

// TestRaiseOfAllTruths is for P8.2, P8.3 and P8.12: nap and rows are as the truths say, and both ends are reached.
func TestRaiseOfAllTruths(t *testing.T) {
	d := dice{1}
	seen := samples.Cases{}
	for i := range tries {
		rack := d.rack([]measure{small, great}[i%2])
		plan := d.plan(rack, api.MaxTeaselPasses)
		for stripe, span := range raise(t, rack, plan) {
			if want := ends(rack, func(x []int) int { return nap(rack, x, plan, stripe) }); span != want {
				t.Fatalf("Raise(%v, %v) = %v for the stripe %d, not %v", rack, plan, span, stripe, want)
			}
			seen[fmt.Sprint("a span of nap: ", span.Low < span.High)]++
		}
		list := slices.Concat(left(t, rack, plan)...)
		for n, r := range rows(rack) {
			passes := used(plan, r.Frame)
			if want := ends(rack, func(x []int) int { return sharp(rack, x, r, passes) }); list[n] != want {
				t.Fatalf("Left(%v, %v) = %v for %v, not %v", rack, plan, list[n], r, want)
			}
			if passes > 0 {
				seen[fmt.Sprint("blunt at last: ", list[n].High == 0)]++
			}
		}
	}
	seen.All(t, "a span of nap: true", "a span of nap: false", "blunt at last: true", "blunt at last: false")
}

// TestAPassMore is for P8.12: with one pass more no stripe is lower and no row sharper.
func TestAPassMore(t *testing.T) {
	d := dice{2}
	seen := samples.Cases{}
	for i := range tries {
		rack := d.rack([]measure{small, great}[i%2])
		plan := d.plan(rack, api.MaxTeaselPasses-1)
		longer := append(slices.Clone(plan), api.TeaselPass{Frame: d.From(0, len(rack)-1), Turned: d.From(0, 1) == 1})
		before, after := raise(t, rack, plan), raise(t, rack, longer)
		for stripe, span := range after {
			if span.Low < before[stripe].Low || span.High < before[stripe].High {
				t.Fatalf("Raise(%v, %v) = %v, of %v %v", rack, plan, before, longer, after)
			}
			if span != before[stripe] {
				seen["higher"]++
			}
		}
		was, is := slices.Concat(left(t, rack, plan)...), slices.Concat(left(t, rack, longer)...)
		for n, span := range is {
			if span.Low > was[n].Low || span.High > was[n].High {
				t.Fatalf("Left(%v, %v) = %v, of %v %v", rack, plan, was, longer, is)
			}
			if span != was[n] {
				seen["blunter"]++
			}
		}
	}
	seen.All(t, "higher", "blunter")
}

// TestEvenInAllTruths is for P8.4 and P8.13: within a limit in all truths, or in one.
func TestEvenInAllTruths(t *testing.T) {
	d := dice{3}
	seen := samples.Cases{}
	for i := range tries {
		rack := d.rack([]measure{small, great}[i%2])
		plan := d.plan(rack, api.MaxTeaselPasses)
		far := ends(rack, func(x []int) int { return apart(naps(rack, x, plan)) })
		limit := d.From(max(0, far.Low-2), far.High+1)
		samples.Two(t, fmt.Sprint("Even of ", rack, plan, limit), far.High <= limit, far.Low <= limit, api.OK)(teasel.Even(rack, plan, limit))
		seen[[]string{"surely", "possibly", "no"}[count(far.High > limit, far.Low > limit)]]++
	}
	seen.All(t, "surely", "possibly", "no")
}

// TestTurnedOfAllPasses is for P8.5 and P8.13: the first one of all passes that make stripes least far apart, over all truths, if they are turned; and they are just as far apart then.
func TestTurnedOfAllPasses(t *testing.T) {
	d := dice{4}
	seen := samples.Cases{}
	for i := range tries {
		rack := d.rack([]measure{small, great}[i%2])
		plan := d.plan(rack, api.MaxTeaselPasses)
		var far []int
		for number := range plan {
			far = append(far, farthest(rack, flip(plan, number)))
		}
		if len(far) == 0 || slices.Min(far) >= farthest(rack, plan) {
			samples.Two(t, "Turned", 0, 0, api.ErrNone)(teasel.Turned(rack, plan))
			seen["none"]++
			continue
		}
		least := slices.Min(far)
		first := slices.Index(far, least)
		samples.Two(t, fmt.Sprint("Turned of ", rack, plan), first, least, api.OK)(teasel.Turned(rack, plan))
		samples.Two(t, "Even as it says", true, true, api.OK)(teasel.Even(rack, flip(plan, first), least))
		if slices.Contains(far[first+1:], least) {
			seen["several"]++
		}
		if first > 0 {
			seen["not the first pass"]++
		}
		seen[fmt.Sprint("turned: ", plan[first].Turned)]++
	}
	seen.All(t, "none", "several", "not the first pass", "turned: true", "turned: false")
}

// TestFewestOfAllPlans is for P8.6 and P8.13: the first one of all plans, from shorter to longer ones, after which all nap is enough and none too much in all truths.
func TestFewestOfAllPlans(t *testing.T) {
	d := dice{5}
	seen := samples.Cases{}
	for i := range tries {
		z := small
		if i%40 == 0 {
			z = great
		}
		rack := d.rack(z)
		// What some plan raises is near to what is asked for, so that there is a plan for some of them.
		x := naps(rack, d.truth(rack), d.plan(rack, api.MaxTeaselTries))
		need := max(0, slices.Min(x)-d.From(0, 2))
		harm := min(max(need, slices.Max(x)+d.From(-1, 3)), api.MaxTeaselNap)
		want, found := fewestOf(rack, need, harm)
		if !found {
			samples.List[api.TeaselPass](t, fmt.Sprint("Fewest of ", rack, need, harm), nil, api.ErrState)(teasel.Fewest(rack, need, harm))
			seen["none"]++
			continue
		}
		samples.List(t, fmt.Sprint("Fewest of ", rack, need, harm), want, api.OK)(teasel.Fewest(rack, need, harm))
		for _, span := range raise(t, rack, want) {
			if span.Low < need || span.High > harm {
				t.Fatalf("Fewest(%v, %d, %d) = %v raises to %v", rack, need, harm, want, span)
			}
		}
		seen[fmt.Sprint(len(want), " passes")]++
		if slices.ContainsFunc(want, func(p api.TeaselPass) bool { return p.Turned }) {
			seen["turned"]++
		}
	}
	seen.All(t, "none", "0 passes", "1 passes", "2 passes", "3 passes", "4 passes", "5 passes", "turned")
}

// TestLivesOfAllTruths is for P8.7 and P8.14: in each truth a row is not blunt for as many passes as Lives says, and some truth has each end.
func TestLivesOfAllTruths(t *testing.T) {
	d := dice{6}
	seen := samples.Cases{}
	for i := range tries {
		z := []measure{small, great}[i%2]
		rack, blunt := d.rack(z), d.From(1, z.sharp)
		list := slices.Concat(last(t, rack, blunt)...)
		for n, r := range rows(rack) {
			if want := ends(rack, func(x []int) int { return life(rack, x, r, blunt) }); list[n] != want {
				t.Fatalf("Lives(%v, %d) = %v for %v, not %v", rack, blunt, list[n], r, want)
			}
			switch {
			case list[n] == to(0, 0):
				seen["blunt"]++
			case list[n].Low == api.MaxTeaselLife:
				seen["for ever"]++
			case list[n].High == api.MaxTeaselLife:
				seen["perhaps for ever"]++
			case list[n].Low < list[n].High:
				seen["a span"]++
			}
		}
	}
	seen.All(t, "blunt", "for ever", "perhaps for ever", "a span")
}

// TestClothsOfAllPasses is for P8.8: in each truth the passes of all frames, one after another, are given to cloths until they are too few.
func TestClothsOfAllPasses(t *testing.T) {
	d := dice{7}
	seen := samples.Cases{}
	for i := range tries {
		z := []measure{small, great}[i%2]
		rack, blunt, passes := d.rack(z), d.From(1, z.sharp), d.From(1, api.MaxTeaselPasses)
		want := ends(rack, func(x []int) int {
			left, cloths := apiece(rack, x, blunt), 0
			for {
				for range passes {
					frame := slices.IndexFunc(left, func(passes int) bool { return passes > 0 })
					if frame < 0 {
						return cloths
					}
					left[frame]--
				}
				cloths++
			}
		})
		samples.Value(t, fmt.Sprint("Cloths of ", rack, blunt, passes), want, api.OK)(teasel.Cloths(rack, blunt, passes))
		seen[[]string{"none", "some in some truths", "some"}[count(want.High > 0, want.Low > 0)]]++
	}
	seen.All(t, "none", "some in some truths", "some")
}

// TestTotalOfAllSchedules is for P8.9, P8.10 and P8.14: in each truth of a small rack as many passes as the longest one of all schedules has; Schedule has as many as there surely are.
func TestTotalOfAllSchedules(t *testing.T) {
	d := dice{8}
	seen := samples.Cases{}
	for i := range tries / 2 {
		z := measure{frames: 2, rows: 3, sharp: 5, wears: 3, doubt: 1}
		if i%2 == 1 {
			z = measure{frames: 3, rows: 2, sharp: 5, wears: 3, doubt: 1}
		}
		rack, blunt := d.rack(z), d.From(1, 3)
		for number := range rack { // what does not wear would have too many schedules
			rack[number].Wears.Low = max(1, rack[number].Wears.Low)
			rack[number].Wears.High = max(1, rack[number].Wears.High)
		}
		want := ends(rack, func(x []int) int { return longest(lives(rack, x, blunt), len(rack[0].Rows)) })
		samples.Value(t, fmt.Sprint("Total of ", rack, blunt), want, api.OK)(teasel.Total(rack, blunt))
		schedule(t, rack, blunt, want.Low)
		more := ends(rack, func(x []int) int { return longest(apiece(rack, x, blunt), 1) })
		samples.Value(t, fmt.Sprint("Cloths of ", rack, blunt), more, api.OK)(teasel.Cloths(rack, blunt, 1))
		switch {
		case want.Low > more.Low:
			seen["more than by themselves"]++
		case want.High == 0:
			seen["none"]++
		default:
			seen["as many"]++
		}
	}
	seen.All(t, "more than by themselves", "none", "as many")
}

// TestToTheLastRow is for P8.9, P8.10 and P8.14: in each truth of any rack there are no fewer passes than its frames have by themselves, a schedule shows that there are so many, and with one more all rows would be too few.
func TestToTheLastRow(t *testing.T) {
	d := dice{9}
	seen := samples.Cases{}
	for range tries / 4 {
		rack, blunt := d.rack(great), d.From(1, great.sharp)
		if d.From(0, 2) == 0 {
			rack[0].Wears = to(0, 0)
		}
		span := total(t, rack, blunt)
		schedule(t, rack, blunt, span.Low)
		all := ends(rack, func(x []int) int {
			one := known(rack, x)
			passes := total(t, one, blunt).Low
			schedule(t, one, blunt, passes)
			each, rows := lives(rack, x, blunt), len(rack[0].Rows)
			own := 0
			for _, frame := range apiece(rack, x, blunt) {
				own += frame
			}
			if passes < own || room(each, rows, passes+1) {
				t.Fatalf("Total(%v, %d) = %d, by themselves the frames have %d, and the rows live for %v", one, blunt, passes, own, each)
			}
			if passes > own {
				seen["more than by themselves"]++
			}
			return passes
		})
		if span != all {
			t.Fatalf("Total(%v, %d) = %v, not %v", rack, blunt, span, all)
		}
		switch {
		case span.High == 0:
			seen["none"]++
		case span.Low < span.High:
			seen["a span"]++
		case span.Low > api.MaxTeaselLife:
			seen["more than a row"]++
		}
	}
	seen.All(t, "more than by themselves", "none", "a span", "more than a row")
}

// TestGuiltyOfAllRows is for P8.11 and P8.15: all rows that can be less sharp so that the stripes have a nap in some truth; a row that truly was less sharp is among them.
func TestGuiltyOfAllRows(t *testing.T) {
	d := dice{10}
	seen := samples.Cases{}
	for i := range tries {
		z := small
		if i%20 == 0 {
			z = great
		}
		rack := d.rack(z)
		plan := d.plan(rack, 4)
		all := rows(rack)
		r := all[d.From(0, len(all)-1)]
		was := rack[r.Frame].Rows[r.Row]
		if was == 0 {
			continue
		}
		nap := naps(blunter(rack, r, d.From(0, was-1)), d.truth(rack), plan)
		if canBe(rack, plan, nap) {
			samples.List[api.TeaselRow](t, "Guilty of what can be", nil, api.ErrTwice)(teasel.Guilty(rack, plan, nap))
			seen["it can be so"]++
			continue
		}
		want := guiltyOf(rack, plan, nap)
		samples.List(t, fmt.Sprint("Guilty of ", rack, plan, nap), want, api.OK)(teasel.Guilty(rack, plan, nap))
		if !slices.Contains(want, r) {
			t.Fatalf("%v is not among %v", r, want)
		}
		seen[[]string{"one", "several"}[min(1, len(want)-1)]]++
	}
	seen.All(t, "it can be so", "one", "several")
}

// TestGuiltyOfAnyNap is for P8.11: nap that perhaps no row explains, as two rows were less sharp, or a stripe is higher.
func TestGuiltyOfAnyNap(t *testing.T) {
	d := dice{11}
	seen := samples.Cases{}
	for range 2 * tries {
		rack := d.rack(small)
		plan := d.plan(rack, 4)
		nap := naps(rack, d.truth(rack), plan)
		for range 2 {
			nap[d.From(0, len(nap)-1)] += d.From(-3, 1)
		}
		want, e := guiltyOf(rack, plan, nap), api.OK
		switch {
		case canBe(rack, plan, nap):
			want, e = nil, api.ErrTwice
		case len(want) == 0:
			e = api.ErrState
		}
		samples.List(t, fmt.Sprint("Guilty of ", rack, plan, nap), want, e)(teasel.Guilty(rack, plan, nap))
		seen[fmt.Sprint("error ", e)]++
	}
	seen.All(t, fmt.Sprint("error ", api.OK), fmt.Sprint("error ", api.ErrTwice), fmt.Sprint("error ", api.ErrState))
}

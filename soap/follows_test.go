package soap_test

import (
	"slices"
	"testing"

	"walkmill/api"
	"walkmill/samples"
	"walkmill/soap"
)

// tries is how many stores, barrels or loads a test of what follows looks at.
const tries = 300

// TestGreaseOfAllTruths is for P6.2 and P6.12: the ounces of Grease are those of all truths, and both ends are reached.
func TestGreaseOfAllTruths(t *testing.T) {
	d := dice{1}
	for i := range 3 * tries {
		c := d.cloth([]sizes{small, great}[i%2])
		var want api.Span
		n := 0
		for x := range truths(nil, c) {
			want = samples.Wider(want, x.ounces(), n)
			n++
		}
		if s, e := soap.Grease(c); s != want || e != api.OK {
			t.Fatalf("Grease of %v = %v, %d, not %v", c, s, e, want)
		}
	}
}

// TestMixesInAllTruths is for P6.3, P6.4 and P6.12: what a mix takes more is counted in all truths, and it scours surely in all of them, possibly in one.
func TestMixesInAllTruths(t *testing.T) {
	d := dice{2}
	seen := samples.Cases{}
	for range 3 * tries {
		s, c := d.store(small), d.cloth(small)
		mix := d.mix(s)
		all := count(s, c, mix)
		if span := over(t, s, c, mix); span != all.over {
			t.Fatalf("Over(%v, %v, %v) = %v, not %v", s, c, mix, span, all.over)
		}
		surely, possibly, stains, e := soap.Scours(s, c, mix)
		if surely != (all.scours == all.truths) || possibly != (all.scours > 0) || stains != (stain(s, mix) > c.Bears) || e != api.OK {
			t.Fatalf("Scours(%v, %v, %v) = %v, %v, %v, %d, but it does in %d of %d", s, c, mix, surely, possibly, stains, e, all.scours, all.truths)
		}
		switch {
		case surely:
			seen["surely"]++
		case possibly:
			seen["possibly"]++
		default:
			seen["no"]++
		}
		if stains {
			seen["stains"]++
		} else {
			seen["does not stain"]++
		}
	}
	seen.All(t, "surely", "possibly", "no", "stains", "does not stain")
}

// TestMixesInATruth is for P6.12: in a truth of a great cloth and store the grease lies in Grease, and what the mix takes more in Over; what surely scours does so.
func TestMixesInATruth(t *testing.T) {
	d := dice{3}
	for range 3 * tries {
		s, c := d.store(great), d.cloth(great)
		mix := d.mix(s)
		x := truth{weight: d.inside(c.Weight).Low, grease: d.inside(c.Grease).Low}
		for _, sort := range s {
			x.takes = append(x.takes, d.inside(sort.Takes).Low)
		}
		ounces, e := soap.Grease(c)
		if n := x.ounces(); e != api.OK || n < ounces.Low || n > ounces.High {
			t.Fatalf("Grease of %v = %v, %d, but it is %d in %v", c, ounces, e, n, x)
		}
		more, span := x.taken(mix)-x.ounces(), over(t, s, c, mix)
		if more < span.Low || more > span.High {
			t.Fatalf("Over(%v, %v, %v) = %v, but it is %d in %v", s, c, mix, span, more, x)
		}
		surely, possibly, _, e := soap.Scours(s, c, mix)
		if surely && more < 0 || !possibly && more >= 0 || surely && !possibly || e != api.OK {
			t.Fatalf("Scours(%v, %v, %v) = %v, %v, %d, but it takes %d more in %v", s, c, mix, surely, possibly, e, more, x)
		}
	}
}

// TestAPoundMore is for P6.12: with a pound more of any sort a mix takes no less.
func TestAPoundMore(t *testing.T) {
	d := dice{4}
	seen := samples.Cases{}
	for range tries {
		s, c := d.store(great), d.cloth(great)
		mix := d.mix(s)
		span := over(t, s, c, mix)
		surely, possibly, _, _ := soap.Scours(s, c, mix)
		for number := range s {
			richer, more := slices.Clone(mix), slices.Clone(s)
			richer[number]++
			if richer[number] > more[number].Has {
				continue
			}
			if span2 := over(t, more, c, richer); span2.Low < span.Low || span2.High < span.High {
				t.Fatalf("Over(%v, %v, %v) = %v, of %v %v", s, c, mix, span, richer, span2)
			}
			surely2, possibly2, _, e := soap.Scours(more, c, richer)
			if surely && !surely2 || possibly && !possibly2 || e != api.OK {
				t.Fatalf("%v, %v: %v scours, and %v does not", s, c, mix, richer)
			}
			if surely2 && !surely {
				seen["scours now"]++
			}
		}
	}
	seen.All(t, "scours now")
}

// TestCheapestOfAllMixes is for P6.5 and P6.13: the first one of all mixes with the lowest price that scour in all truths without staining.
func TestCheapestOfAllMixes(t *testing.T) {
	d := dice{5}
	seen := samples.Cases{}
	for range 2 * tries {
		s, c := d.store(small), d.cloth(small)
		want, found := cheapestOf(s, fit(s, c))
		mix, price, e := soap.Cheapest(s, c)
		if !slices.Equal(mix, want) || price != cost(s, want) || (e == api.OK) != found || !found && e != api.ErrState {
			t.Fatalf("Cheapest(%v, %v) = %v, %d, %d, not %v", s, c, mix, price, e, want)
		}
		switch n := len(slices.DeleteFunc(fit(s, c), func(mix []int) bool { return cost(s, mix) != price })); {
		case n == 0:
			seen["none"]++
		case n == 1:
			seen["one"]++
		default:
			seen["several"]++
		}
	}
	seen.All(t, "none", "one", "several")
}

// TestCheapestOfGreatStores is for P6.13: no mix of a great store that is tried, and that by Scours surely scours without staining, is cheaper.
func TestCheapestOfGreatStores(t *testing.T) {
	d := dice{6}
	seen := samples.Cases{}
	for i := range tries / 10 {
		s, c := d.store(great), d.cloth(great)
		if i == 0 {
			s = slices.Repeat(one(to(9, 10), 3, 1, 12), 4)
		}
		best, price, e := soap.Cheapest(s, c)
		if e != api.OK && e != api.ErrState || price != cost(s, best) {
			t.Fatalf("Cheapest(%v, %v) = %v, %d, %d", s, c, best, price, e)
		}
		for mix := range mixes(s) {
			surely, _, stains, _ := soap.Scours(s, c, mix)
			if !surely || stains {
				continue
			}
			if costs := cost(s, mix); e != api.OK || costs < price || costs == price && slices.Compare(mix, best) < 0 {
				t.Fatalf("Cheapest(%v, %v) = %v, %d, %d, and %v costs %d", s, c, best, price, e, mix, costs)
			}
		}
		if e == api.OK {
			seen["some"]++
		} else {
			seen["none"]++
		}
	}
	seen.All(t, "some", "none")
}

// TestDearOfAllPrices is for P6.6: the greatest one of all prices with which the cheapest mix of all is cheaper than that without the sort.
func TestDearOfAllPrices(t *testing.T) {
	d := dice{7}
	seen := samples.Cases{}
	for range tries {
		s, c := d.store(small), d.cloth(small)
		number := d.From(0, len(s)-1)
		want, found := dearOf(s, c, number)
		price, e := soap.Dear(s, c, number)
		if price != want || (e == api.OK) != found || !found && e != api.ErrState {
			t.Fatalf("Dear(%v, %v, %d) = %d, %d, not %d", s, c, number, price, e, want)
		}
		switch {
		case !found:
			seen["none"]++
		case price == 0:
			seen["nothing"]++
		case price == api.MaxSoapPrice:
			seen["the greatest"]++
		default:
			seen["some"]++
		}
	}
	seen.All(t, "none", "nothing", "the greatest", "some")
}

// TestDearOfGreatStores is for P6.13: with the price of Dear the cheapest mix has some of the sort, and is cheaper than the one without it; with a farthing more it is not.
func TestDearOfGreatStores(t *testing.T) {
	d := dice{8}
	seen := samples.Cases{}
	for range tries / 5 {
		s, c := d.store(great), d.cloth(great)
		number := d.From(0, len(s)-1)
		price, e := soap.Dear(s, c, number)
		if e == api.ErrState {
			price = -1 // so a farthing more is the least price
		} else if e != api.OK {
			t.Fatalf("Dear(%v, %v, %d) = %d, %d", s, c, number, price, e)
		}
		less := slices.Clone(s)
		less[number].Has = 0
		_, without, e := soap.Cheapest(less, c)
		alone := e == api.OK
		if price >= 0 {
			mix, costs, e := soap.Cheapest(priced(s, number, price), c)
			if e != api.OK || mix[number] == 0 || alone && costs >= without {
				t.Fatalf("Dear(%v, %v, %d) = %d: Cheapest = %v, %d, %d; without it %d", s, c, number, price, mix, costs, e, without)
			}
			seen["some"]++
		}
		if price < api.MaxSoapPrice {
			_, costs, e := soap.Cheapest(priced(s, number, price+1), c)
			if e == api.OK && (!alone || costs < without) {
				t.Fatalf("Dear(%v, %v, %d) = %d: for a farthing more %d; without it %d", s, c, number, price, costs, without)
			}
			seen["a farthing more"]++
		}
	}
	seen.All(t, "some", "a farthing more")
}

// TestServesOfAllMixes is for P6.7 and P6.13: each cloth has the first one of all the cheapest mixes of what is left, and together they have no more than the store.
func TestServesOfAllMixes(t *testing.T) {
	d := dice{9}
	seen := samples.Cases{}
	for range tries {
		s := d.store(small)
		var cloths []api.SoapCloth
		for range d.From(0, api.MaxSoapCloths) {
			cloths = append(cloths, d.cloth(sizes{weight: 20, stains: 4, has: 3, doubt: 1}))
		}
		l, e := soap.Serves(s, cloths)
		if e != api.OK || len(l) > len(cloths) {
			t.Fatalf("Serves(%v, %v) = %v, %d", s, cloths, l, e)
		}
		left := slices.Clone(s)
		for i, c := range cloths {
			want, found := cheapestOf(left, fit(left, c))
			if found != (i < len(l)) || found && !slices.Equal(l[i], want) {
				t.Fatalf("Serves(%v, %v) = %v, not %v of %d", s, cloths, l, want, i)
			}
			if !found {
				break
			}
			for number, pounds := range want {
				left[number].Has -= pounds
			}
		}
		for number := range left {
			if left[number].Has < 0 {
				t.Fatalf("Serves(%v, %v) = %v: %v are left", s, cloths, l, left)
			}
		}
		switch {
		case len(l) == len(cloths):
			seen["all"]++
		case len(l) == 0:
			seen["none"]++
		default:
			seen["some"]++
		}
	}
	seen.All(t, "all", "none", "some")
}

// shortIn counts the truths in which a barrel is short, and all of them.
func shortIn(b api.SoapBarrel) (short, truths int) {
	for list := range samples.Lists(to(b.Gross-b.Off, b.Gross+b.Off), b.Tare) {
		if list[0]-list[1] < 16*b.Says {
			short++
		}
		truths++
	}
	return short, truths
}

// TestShortInAllTruths is for P6.8 and P6.14: surely in all truths, possibly in one, whatever the scales and the wood truly were.
func TestShortInAllTruths(t *testing.T) {
	d := dice{10}
	seen := samples.Cases{}
	for i := range tries / 10 {
		l := d.barrels(d.From(0, api.MaxSoapBarrels), []int{3, 60}[i%2])
		var surely, possibly []int
		for i, b := range l {
			short, truths := shortIn(b)
			if short == truths {
				surely = append(surely, i)
				seen["surely"]++
			}
			if short > 0 {
				possibly = append(possibly, i)
				seen["possibly"] += min(1, truths-short)
			} else {
				seen["no"]++
			}
		}
		got, can, e := soap.Short(l)
		if !slices.Equal(got, surely) || !slices.Equal(can, possibly) || e != api.OK {
			t.Fatalf("Short(%v) = %v, %v, %d, not %v, %v", l, got, can, e, surely, possibly)
		}
	}
	seen.All(t, "surely", "possibly", "no")
}

// within reports whether each number of a list is one of another one.
func within(list, other []int) bool {
	return !slices.ContainsFunc(list, func(x int) bool { return !slices.Contains(other, x) })
}

// TestShortOfNarrowTares is for P6.14: with a narrower Tare no fewer barrels are surely short, no more possibly.
func TestShortOfNarrowTares(t *testing.T) {
	d := dice{11}
	seen := samples.Cases{}
	for range tries {
		l := d.barrels(api.MaxSoapBarrels, 60)
		narrow := slices.Clone(l)
		for i := range narrow {
			narrow[i].Tare = d.inside(narrow[i].Tare)
		}
		surely, possibly, e := soap.Short(l)
		surely2, possibly2, e2 := soap.Short(narrow)
		if !within(surely, surely2) || !within(possibly2, possibly) || !within(surely, possibly) || e != api.OK || e2 != api.OK {
			t.Fatalf("Short(%v) = %v, %v; of %v %v, %v", l, surely, possibly, narrow, surely2, possibly2)
		}
		seen["surely now"] += len(surely2) - len(surely)
		seen["no more"] += len(possibly) - len(possibly2)
	}
	seen.All(t, "surely now", "no more")
}

// TestSuspectsOfAllMisreadings is for P6.9: the barrels that are light by one at least of all ways in which at most wrong of the trials were misread.
func TestSuspectsOfAllMisreadings(t *testing.T) {
	d := dice{12}
	seen := samples.Cases{}
	for range tries {
		barrels := d.From(2, api.MaxSoapBarrels)
		trials := d.trials(d.From(0, 6), barrels, d.From(0, barrels-1), d.From(0, 3))
		wrong := d.From(0, 3)
		want := suspectsOf(barrels, trials, wrong)
		list, e := soap.Suspects(barrels, trials, wrong)
		if !slices.Equal(list, want) || (e == api.OK) != (len(want) > 0) || len(want) == 0 && e != api.ErrState {
			t.Fatalf("Suspects(%d, %v, %d) = %v, %d, not %v", barrels, trials, wrong, list, e, want)
		}
		switch len(want) {
		case 0:
			seen["none"]++
		case 1:
			seen["one"]++
		case barrels:
			seen["all"]++
		default:
			seen["some"]++
		}
	}
	seen.All(t, "none", "one", "all", "some")
}

// TestTheLightBarrel is for P6.15: it is among Suspects if no more trials were misread than wrong; with more that can be misread there are no fewer.
func TestTheLightBarrel(t *testing.T) {
	d := dice{13}
	seen := samples.Cases{}
	for range tries {
		barrels, misread := d.From(2, api.MaxSoapBarrels), d.From(0, 4)
		light := d.From(0, barrels-1)
		trials := d.trials(d.From(misread, api.MaxSoapTrials), barrels, light, misread)
		var fewer []int
		for wrong := misread; wrong <= api.MaxSoapTrials; wrong++ {
			list := suspects(t, barrels, trials, wrong)
			if !slices.Contains(list, light) || !within(fewer, list) {
				t.Fatalf("Suspects(%d, %v, %d) = %v, with one less %v; it is %d", barrels, trials, wrong, list, fewer, light)
			}
			if len(list) > len(fewer) && len(fewer) > 0 {
				seen["more"]++
			}
			fewer = list
		}
	}
	seen.All(t, "more")
}

// TestTrialsOfAllLayings is for P6.10 and P6.15: the fewest trials by which the light barrel is found, of all ways in which barrels can be laid on the pans.
func TestTrialsOfAllLayings(t *testing.T) {
	d := dice{14}
	seen := samples.Cases{}
	for range tries / 10 {
		barrels := d.From(2, 7)
		trials := d.trials(d.From(0, 2), barrels, d.From(0, barrels-1), 0)
		want, left := 0, suspectsOf(barrels, trials, 0)
		for !finds(layings(barrels), left, want) {
			want++
		}
		samples.Value(t, "Trials", want, api.OK)(soap.Trials(barrels, trials))
		seen[[]string{"none", "one", "two"}[want]]++
	}
	seen.All(t, "none", "one", "two")
}

// TestTrialsByThirds is for P6.15: three to the power of the trials is no fewer than the suspects, three to one power less is fewer.
func TestTrialsByThirds(t *testing.T) {
	d := dice{15}
	seen := samples.Cases{}
	for range tries {
		barrels := d.From(2, api.MaxSoapBarrels)
		trials := d.trials(d.From(0, 2), barrels, d.From(0, barrels-1), 0)
		more, e := soap.Trials(barrels, trials)
		left := len(suspects(t, barrels, trials, 0))
		powers := []int{0, 1, 3, 9, 27} // three to one power less than 0 is less than one
		if e != api.OK || more > 3 || powers[more+1] < left || powers[more] >= left {
			t.Fatalf("Trials(%d, %v) = %d, %d, of %d", barrels, trials, more, e, left)
		}
		seen[[]string{"none", "one", "two", "three"}[more]]++
	}
	seen.All(t, "none", "one", "two", "three")
}

// shareOf is what a weaver pays: one more if fewer farthings than are missing are for those before, by what was rounded.
func shareOf(pounds []int, price, number int) int {
	all, missing, before := 0, price, 0
	for _, own := range pounds {
		all += own
	}
	for i, own := range pounds {
		missing -= own * price / all
		rest, mine := own*price%all, pounds[number]*price%all
		if rest > mine || rest == mine && i < number {
			before++
		}
	}
	if before < missing {
		return pounds[number]*price/all + 1
	}
	return pounds[number] * price / all
}

// TestShares is for P6.11 and P6.16: all shares together are the price, each is the exact one, less than a farthing more or less, and who bought more pays no less.
func TestShares(t *testing.T) {
	d := dice{16}
	seen := samples.Cases{}
	for range 10 * tries {
		pounds, price := d.pounds(), d.From(0, []int{30, api.MaxSoapMoney}[d.From(0, 1)])
		shares := share(t, pounds, price)
		all, paid := 0, 0
		for i, own := range pounds {
			all += own
			paid += shares[i]
		}
		if paid != price {
			t.Fatalf("Share(%v, %d) = %v: together %d", pounds, price, shares, paid)
		}
		for i, own := range pounds {
			if off := shares[i]*all - own*price; off <= -all || off >= all {
				t.Fatalf("Share(%v, %d) = %v: that of %d is wrong by %d/%d", pounds, price, shares, i, off, all)
			}
			if want := shareOf(pounds, price, i); shares[i] != want {
				t.Fatalf("Share(%v, %d) = %v: that of %d is not %d", pounds, price, shares, i, want)
			}
			for other, more := range pounds {
				if more > own && shares[other] < shares[i] {
					t.Fatalf("Share(%v, %d) = %v: %d pays less than %d", pounds, price, shares, other, i)
				}
				if more == own && shares[other] < shares[i] {
					seen["the first ones"]++
				}
			}
			if own*price%all == 0 {
				seen["exact"]++
			} else {
				seen["rounded"]++
			}
		}
	}
	seen.All(t, "the first ones", "exact", "rounded")
}

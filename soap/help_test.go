package soap_test

import (
	"iter"
	"slices"
	"testing"

	"walkmill/api"
	"walkmill/samples"
	"walkmill/soap"
)

// to, sort, cloth, barrel and trial write spans and what is made of them shortly.
func to(low, high int) api.Span { return api.Span{Low: low, High: high} }

func sort(takes api.Span, price, stains, has int) api.SoapSort {
	return api.SoapSort{Takes: takes, Price: price, Stains: stains, Has: has}
}

func cloth(weight, grease api.Span, bears int) api.SoapCloth {
	return api.SoapCloth{Weight: weight, Grease: grease, Bears: bears}
}

func barrel(says, gross, off int, tare api.Span) api.SoapBarrel {
	return api.SoapBarrel{Says: says, Gross: gross, Off: off, Tare: tare}
}

func trial(left, right []int, lighter api.SoapPan) api.SoapTrial {
	return api.SoapTrial{Left: left, Right: right, Lighter: lighter}
}

// store and greasy are the store and the cloth of the chapter's examples, thirds is their trial.
func store() []api.SoapSort {
	return []api.SoapSort{sort(to(8, 10), 3, 4, 10), sort(to(20, 24), 10, 1, 5)}
}

func greasy() api.SoapCloth { return cloth(to(400, 420), to(100, 110), 30) }

func thirds() api.SoapTrial { return trial([]int{0, 1, 2}, []int{3, 4, 5}, api.SoapEven) }

// has is a cloth of which it is known that it has so many ounces of grease.
func has(ounces, bears int) api.SoapCloth {
	if ounces == 0 {
		return cloth(to(1, 1), to(0, 0), bears)
	}
	grease := (ounces + 1) / 2
	weight := 1000 * ounces / grease // it loses less than an ounce of grease so, which is rounded up again
	return cloth(to(weight, weight), to(grease, grease), bears)
}

// mixes yields all mixes of a store.
func mixes(s []api.SoapSort) iter.Seq[[]int] {
	var spans []api.Span
	for _, x := range s {
		spans = append(spans, to(0, x.Has))
	}
	return samples.Lists(spans...)
}

// truth is what a cloth and a store are in a truth.
type truth struct {
	weight, grease int
	takes          []int
}

// truths yields all truths of a cloth and a store.
func truths(s []api.SoapSort, c api.SoapCloth) iter.Seq[truth] {
	spans := []api.Span{c.Weight, c.Grease}
	for _, x := range s {
		spans = append(spans, x.Takes)
	}
	return func(yield func(truth) bool) {
		for list := range samples.Lists(spans...) {
			if !yield(truth{list[0], list[1], list[2:]}) {
				return
			}
		}
	}
}

// ounces is how much grease the cloth has, as the chapter says it.
func (x truth) ounces() int {
	n := x.weight * x.grease / 1000
	if 1000*n < x.weight*x.grease {
		n++
	}
	return n
}

// taken is how much a mix takes.
func (x truth) taken(mix []int) int {
	n := 0
	for i, pounds := range mix {
		n += pounds * x.takes[i]
	}
	return n
}

// tally is what the count of all truths says of a mix: in how many of them it scours, and by how much it takes more.
type tally struct {
	truths, scours int
	over           api.Span
}

func count(s []api.SoapSort, c api.SoapCloth, mix []int) tally {
	var all tally
	for x := range truths(s, c) {
		over := x.taken(mix) - x.ounces()
		all.over = samples.Wider(all.over, over, all.truths)
		all.truths++
		if over >= 0 {
			all.scours++
		}
	}
	return all
}

// cost and stain are what a mix costs, and by how much it stains.
func cost(s []api.SoapSort, mix []int) int {
	n := 0
	for i, pounds := range mix {
		n += pounds * s[i].Price
	}
	return n
}

func stain(s []api.SoapSort, mix []int) int {
	n := 0
	for i, pounds := range mix {
		n += pounds * s[i].Stains
	}
	return n
}

// fit is the list of all mixes that scour a cloth in all truths and do not stain it.
func fit(s []api.SoapSort, c api.SoapCloth) [][]int {
	var list [][]int
	for mix := range mixes(s) {
		if stain(s, mix) > c.Bears {
			continue
		}
		if all := count(s, c, mix); all.scours == all.truths {
			list = append(list, mix)
		}
	}
	return list
}

// cheapestOf is the first one of the mixes with the lowest price, and whether there is one.
func cheapestOf(s []api.SoapSort, list [][]int) (mix []int, found bool) {
	for _, x := range list {
		if !found || cost(s, x) < cost(s, mix) {
			mix, found = x, true
		}
	}
	return mix, found
}

// priced is a store with a price of a sort.
func priced(s []api.SoapSort, number, price int) []api.SoapSort {
	s = slices.Clone(s)
	s[number].Price = price
	return s
}

// dearOf is the greatest one of all prices of a sort with which the cheapest mix is cheaper than that without the sort, and whether there is one.
func dearOf(s []api.SoapSort, c api.SoapCloth, number int) (price int, found bool) {
	with := fit(s, c)
	without := slices.DeleteFunc(slices.Clone(with), func(mix []int) bool { return mix[number] > 0 })
	other, alone := cheapestOf(s, without)
	for price := api.MaxSoapPrice; price >= 0; price-- {
		now := priced(s, number, price)
		mix, found := cheapestOf(now, with)
		if found && (!alone || cost(now, mix) < cost(now, other)) {
			return price, true
		}
	}
	return 0, false
}

// pan is the lighter pan of a balance, if one barrel is the light one.
func pan(t api.SoapTrial, light int) api.SoapPan {
	weigh := func(barrels []int) int {
		ounces := 0
		for _, b := range barrels {
			ounces += 16
			if b == light {
				ounces--
			}
		}
		return ounces
	}
	switch left, right := weigh(t.Left), weigh(t.Right); {
	case left < right:
		return api.SoapLeft
	case right < left:
		return api.SoapRight
	}
	return api.SoapEven
}

// explained reports whether a barrel can be the light one if just these trials were misread.
func explained(trials []api.SoapTrial, misread []int, light int) bool {
	for i, t := range trials {
		if (pan(t, light) == t.Lighter) == slices.Contains(misread, i) {
			return false
		}
	}
	return true
}

// suspectsOf are the barrels that can be the light one, by all ways in which trials were misread.
func suspectsOf(barrels int, trials []api.SoapTrial, wrong int) []int {
	var list []int
	for light := range barrels {
		for _, misread := range samples.Sets(len(trials)) {
			if len(misread) <= wrong && explained(trials, misread, light) {
				list = append(list, light)
				break
			}
		}
	}
	return list
}

// layings are all ways in which so many barrels are laid on both pans.
func layings(barrels int) []api.SoapTrial {
	var list []api.SoapTrial
	for places := range samples.Lists(slices.Repeat([]api.Span{to(0, 2)}, barrels)...) {
		var pans [3][]int
		for b, place := range places {
			pans[place] = append(pans[place], b)
		}
		if len(pans[1]) == len(pans[2]) && len(pans[1]) > 0 {
			list = append(list, trial(pans[1], pans[2], api.SoapEven))
		}
	}
	return list
}

// finds reports whether by so many trials the light one of some suspects surely is found, whatever the trials show.
func finds(layings []api.SoapTrial, suspects []int, trials int) bool {
	if len(suspects) <= 1 || trials == 0 {
		return len(suspects) <= 1
	}
	return slices.ContainsFunc(layings, func(t api.SoapTrial) bool {
		for _, lighter := range []api.SoapPan{api.SoapEven, api.SoapLeft, api.SoapRight} {
			left := slices.DeleteFunc(slices.Clone(suspects), func(b int) bool { return pan(t, b) != lighter })
			if !finds(layings, left, trials-1) {
				return false
			}
		}
		return true
	})
}

// dice make what is tried here.
type dice struct{ samples.Dice }

// sizes say which stores and cloths are made: how many sorts there are, how much a pound takes, costs and stains, how many pounds there are, how heavy a cloth is, and by how much all is not known.
type sizes struct{ sorts, takes, price, stains, has, weight, doubt int }

// small ones have few truths, great ones are of any valid size.
var (
	small = sizes{3, 6, 9, 4, 3, 60, 1}
	great = sizes{api.MaxSoapSorts, api.MaxSoapTakes, api.MaxSoapPrice, api.MaxSoapStains, api.MaxSoapHas, api.MaxSoapWeight, 50}
)

// inside makes a span that lies within another one.
func (d *dice) inside(s api.Span) api.Span { return d.Span(s.Low, s.High, s.High-s.Low) }

// store makes a store.
func (d *dice) store(z sizes) []api.SoapSort {
	var s []api.SoapSort
	for range d.From(1, z.sorts) {
		s = append(s, sort(d.Span(0, z.takes, z.doubt), d.From(0, z.price), d.From(0, z.stains), d.From(0, z.has)))
	}
	return s
}

// cloth makes a cloth; most stores can scour most of them.
func (d *dice) cloth(z sizes) api.SoapCloth {
	return cloth(d.Span(1, z.weight, z.doubt), d.Span(0, api.MaxSoapGrease, z.doubt), d.From(0, min(z.stains*z.has, api.MaxSoapBears)))
}

// mix makes a mix of a store.
func (d *dice) mix(s []api.SoapSort) []int {
	var mix []int
	for _, x := range s {
		mix = append(mix, d.From(0, x.Has))
	}
	return mix
}

// barrel makes a barrel; most of them say about what is in them.
func (d *dice) barrel(doubt int) api.SoapBarrel {
	says, tare := d.From(1, api.MaxSoapSays), d.Span(0, api.MaxSoapTare, doubt)
	gross := max(0, 16*says+tare.Low+d.From(-doubt, 2*doubt))
	return barrel(says, gross, d.From(0, min(doubt, api.MaxSoapOff)), tare)
}

// barrels makes so many barrels.
func (d *dice) barrels(n, doubt int) []api.SoapBarrel {
	var l []api.SoapBarrel
	for range n {
		l = append(l, d.barrel(doubt))
	}
	return l
}

// trials makes so many trials of barrels of which one is light, some of which are misread.
func (d *dice) trials(n, barrels, light, misread int) []api.SoapTrial {
	var list []api.SoapTrial
	for i := range n {
		mixed, each := d.Mixed(barrels), d.From(1, barrels/2)
		t := trial(mixed[:each], mixed[each:2*each], api.SoapEven)
		t.Lighter = pan(t, light)
		if i < misread {
			t.Lighter = (t.Lighter + api.SoapPan(d.From(1, 2))) % 3
		}
		list = slices.Insert(list, d.From(0, len(list)), t)
	}
	return list
}

// pounds makes what up to six weavers buy.
func (d *dice) pounds() []int {
	var list []int
	most := d.From(1, api.MaxSoapPounds)
	for range d.From(1, api.MaxSoapShares) {
		list = append(list, d.From(1, most))
	}
	return list
}

// over, suspects and share ask what must not have an error.
func over(t *testing.T, s []api.SoapSort, c api.SoapCloth, mix []int) api.Span {
	t.Helper()
	span, e := soap.Over(s, c, mix)
	if e != api.OK {
		t.Fatalf("Over(%v, %v, %v) = %d", s, c, mix, e)
	}
	return span
}

func suspects(t *testing.T, barrels int, trials []api.SoapTrial, wrong int) []int {
	t.Helper()
	list, e := soap.Suspects(barrels, trials, wrong)
	if e != api.OK || len(list) == 0 {
		t.Fatalf("Suspects(%d, %v, %d) = %v, %d", barrels, trials, wrong, list, e)
	}
	return list
}

func share(t *testing.T, pounds []int, price int) []int {
	t.Helper()
	list, e := soap.Share(pounds, price)
	if e != api.OK || len(list) != len(pounds) {
		t.Fatalf("Share(%v, %d) = %v, %d", pounds, price, list, e)
	}
	return list
}

package soap

import (
	"iter"
	"slices"
	"sort"

	"walkmill/api"
)

// job is a cloth that is to be scoured with the sorts of a store.
type job struct {
	api.SoapCloth
	store []api.SoapSort
}

// ounces returns how much grease the cloth has.
func (j job) ounces() api.Span {
	return api.Span{Low: grease(j.Weight.Low, j.Grease.Low), High: grease(j.Weight.High, j.Grease.High)}
}

// grease returns how many ounces some thousandths of a weight are, rounded up.
func grease(weight, thousandths int) int { return (weight*thousandths + 999) / 1000 }

// together returns what all pounds of a mix do together, by what a pound of each sort does.
func (j job) together(mix []int, does func(api.SoapSort) int) int {
	list := make([]int, len(mix))
	for number, pounds := range mix {
		list[number] = pounds * does(j.store[number])
	}
	return total(list...)
}

// over returns by how much a mix takes more grease than the cloth has.
func (j job) over(mix []int) api.Span {
	has := j.ounces()
	return api.Span{
		Low:  j.together(mix, func(s api.SoapSort) int { return s.Takes.Low }) - has.High,
		High: j.together(mix, func(s api.SoapSort) int { return s.Takes.High }) - has.Low,
	}
}

// stains reports whether a mix stains the cloth.
func (j job) stains(mix []int) bool {
	return j.together(mix, func(s api.SoapSort) int { return s.Stains }) > j.Bears
}

// price returns what a mix costs.
func (j job) price(mix []int) int {
	return j.together(mix, func(s api.SoapSort) int { return s.Price })
}

// mixes yields the mixes of a store: the smaller lists first.
func mixes(store []api.SoapSort) iter.Seq[[]int] {
	return func(yield func(mix []int) bool) {
		if len(store) == 0 {
			yield(nil)
			return
		}
		last := len(store) - 1
		for mix := range mixes(store[:last]) {
			for pounds := range store[last].Has + 1 {
				if !yield(append(slices.Clip(mix), pounds)) {
					return
				}
			}
		}
	}
}

// cheapest returns the cheapest mix that surely scours the cloth and does not stain it, the smallest list of several, with its price, and whether there is one.
func (j job) cheapest() (best []int, price int, found bool) {
	for mix := range mixes(j.store) {
		costs := j.price(mix)
		if (!found || costs < price) && j.over(mix).Low >= 0 && !j.stains(mix) {
			best, price, found = mix, costs, true
		}
	}
	return best, price, found
}

// with returns a job with a change of a sort of its store.
func (j job) with(number int, change func(*api.SoapSort)) job {
	j.store = slices.Clone(j.store)
	change(&j.store[number])
	return j
}

// dear returns the greatest price of a sort with which the cheapest mix is cheaper than without the sort, and whether there is one.
func (j job) dear(number int) (price int, found bool) {
	_, least, without := j.with(number, func(s *api.SoapSort) { s.Has = 0 }).cheapest()
	// With a greater price no mix is cheaper, so the prices that are too great follow on those that are not.
	dearer := sort.Search(api.MaxSoapPrice+1, func(price int) bool {
		_, costs, found := j.with(number, func(s *api.SoapSort) { s.Price = price }).cheapest()
		return !found || without && costs >= least
	})
	return dearer - 1, dearer > 0
}

package wool_test

import (
	"iter"
	"slices"
	"testing"

	"walkmill/api"
	"walkmill/samples"
	"walkmill/wool"
)

// to, weigh and road write spans and what is made of them shortly.
func to(low, high int) api.Span { return api.Span{Low: low, High: high} }

func weigh(at, reading, off int) api.WoolWeighing {
	return api.WoolWeighing{At: at, Reading: reading, Off: off}
}

func road(stations []api.Span, weighings ...api.WoolWeighing) api.WoolRoad {
	return api.WoolRoad{Stations: stations, Weighings: weighings}
}

// spans are some spans, some some weighings, and days some roads.
func spans(list ...api.Span) []api.Span { return list }

func some(list ...api.WoolWeighing) []api.WoolWeighing { return list }

func days(list ...api.WoolRoad) []api.WoolRoad { return list }

// mill is the road of the chapter's examples, with what was read at its end, and with some weighings more.
func mill(reading int, more ...api.WoolWeighing) api.WoolRoad {
	return road(spans(to(100, 200), to(0, 50)), append(some(weigh(0, 200, 2), weigh(2, reading, 1)), more...)...)
}

// bare are so many stations that take nothing.
func bare(stations int) []api.Span { return make([]api.Span, stations) }

// more is a road with some weighings more, and drop one without those of a set.
func more(r api.WoolRoad, weighings ...api.WoolWeighing) api.WoolRoad {
	r.Weighings = slices.Concat(r.Weighings, weighings)
	return r
}

func drop(r api.WoolRoad, set []int) api.WoolRoad {
	r.Weighings = samples.Drop(r.Weighings, set)
	return r
}

// theft says whether so many ounces can have been stolen at a station.
type theft func(station, ounces int) bool

func nothing(_, ounces int) bool { return ounces == 0 }

func anything(_, _ int) bool { return true }

func just(thief int) theft {
	return func(station, ounces int) bool { return (station == thief) == (ounces > 0) }
}

// step is what a cloth weighs before a station, what is taken and stolen there, and what is left.
type step struct{ station, came, takes, stolen, left int }

// steps yields all steps at a station, if so much comes.
func steps(r api.WoolRoad, can theft, station, came int) iter.Seq[step] {
	return func(yield func(step) bool) {
		rate := r.Stations[station]
		for takes := came * rate.Low / 1000; takes <= up(came*rate.High); takes++ {
			for left := came - takes; left >= 0; left-- {
				s := step{station, came, takes, came - takes - left, left}
				if can(station, s.stolen) && fits(r, station+1, left) && !yield(s) {
					return
				}
			}
		}
	}
}

// up is a number divided by 1000, rounded up.
func up(x int) int {
	if x%1000 > 0 {
		return x/1000 + 1
	}
	return x / 1000
}

// fits reports whether a cloth can weigh so much at a point, by the weighings there.
func fits(r api.WoolRoad, point, weight int) bool {
	return !slices.ContainsFunc(r.Weighings, func(w api.WoolWeighing) bool {
		return w.At == point && (weight < w.Reading-w.Off || weight > w.Reading+w.Off)
	})
}

// truth is the steps of a cloth.
type truth []step

// weight is what the cloth weighs at a point.
func (x truth) weight(point int) int {
	if point == len(x) {
		return x[point-1].left
	}
	return x[point].came
}

// stolen is what was stolen in all.
func (x truth) stolen() int {
	sum := 0
	for _, s := range x {
		sum += s.stolen
	}
	return sum
}

// thieves are the stations at which something was stolen.
func (x truth) thieves() []int {
	var list []int
	for _, s := range x {
		if s.stolen > 0 {
			list = append(list, s.station)
		}
	}
	return list
}

// truthsOf yields all truths of a road, one by one; the list that is yielded is written anew for the next one.
func truthsOf(r api.WoolRoad, can theft) iter.Seq[truth] {
	return func(yield func(truth) bool) {
		x := make(truth, len(r.Stations))
		var from func(station, came int) bool
		from = func(station, came int) bool {
			if station == len(x) {
				return yield(x)
			}
			for s := range steps(r, can, station, came) {
				x[station] = s
				if !from(station+1, s.left) {
					return false
				}
			}
			return true
		}
		for came := range api.MaxWoolWeight + 1 {
			if fits(r, 0, came) && !from(0, came) {
				return
			}
		}
	}
}

// ends is the sum of what each step counts: the least and the greatest one of all truths; and whether there is a truth. It goes through all steps, but of all ways to a weight it keeps only the least sum and the greatest one.
func ends(r api.WoolRoad, can theft, counts func(step) int) (api.Span, bool) {
	sums := map[int]api.Span{}
	for came := range api.MaxWoolWeight + 1 {
		if fits(r, 0, came) {
			sums[came] = to(0, 0)
		}
	}
	for station := range r.Stations {
		next := map[int]api.Span{}
		for came, sum := range sums {
			for s := range steps(r, can, station, came) {
				n := counts(s)
				known, ok := next[s.left]
				if !ok {
					known = to(sum.Low+n, sum.High+n)
				}
				next[s.left] = to(min(known.Low, sum.Low+n), max(known.High, sum.High+n))
			}
		}
		sums = next
	}
	var all api.Span
	n := 0
	for _, sum := range sums {
		all = samples.Wider(all, sum.Low, n)
		all = samples.Wider(all, sum.High, n+1)
		n++
	}
	return all, n > 0
}

// possible reports whether a road has a truth.
func possible(r api.WoolRoad, can theft) bool {
	_, found := ends(r, can, func(step) int { return 0 })
	return found
}

// whereOf are the stations at which something can have been stolen, if it was at just one.
func whereOf(r api.WoolRoad) []int {
	return slices.DeleteFunc(samples.UpTo(len(r.Stations)), func(station int) bool { return !possible(r, just(station)) })
}

// wrongOf is the first one of all sets of weighings without which there is an honest truth.
func wrongOf(r api.WoolRoad) []int {
	return samples.First(len(r.Weighings), func(set []int) bool { return possible(drop(r, set), nothing) })
}

// dice make what is tried here.
type dice struct{ samples.Dice }

// measure says which roads are made: how many stations, how much these take and how little that is known, how much the cloth weighs, how many weighings there are, and how wrong these are.
type measure struct{ stations, takes, doubt, weight, weighings, off int }

// small roads have few truths, sharp ones fewer, since more is known of them; great ones are of any valid size.
var (
	sharp = measure{stations: 3, takes: 300, doubt: 20, weight: 20, weighings: 6, off: 0}
	small = measure{stations: 3, takes: 300, doubt: 150, weight: 24, weighings: 4, off: 1}
	great = measure{stations: api.MaxWoolStations, takes: api.MaxWoolTakes, doubt: api.MaxWoolTakes, weight: api.MaxWoolWeight, weighings: api.MaxWoolWeighings, off: api.MaxWoolOff}
)

// At how many stations of a truth something is stolen.
const (
	noThief = iota
	oneThief
	anyThieves
)

// trip makes a road with a truth of it, in which there is no thief, one, or any. The first weighing is at the point 0.
func (d *dice) trip(z measure, kind int) (api.WoolRoad, truth) {
	var r api.WoolRoad
	for range d.From(1, z.stations) {
		r.Stations = append(r.Stations, d.Span(0, z.takes, z.doubt))
	}
	x := d.truth(r, d.From(z.weight/2, z.weight), kind)
	r.Weighings = some(d.weighing(x, 0, z.off))
	for range d.From(0, z.weighings-1) {
		r.Weighings = append(r.Weighings, d.weighing(x, d.From(0, len(x)), z.off))
	}
	return r, x
}

// truth makes a truth of stations to which so much comes; a thief steals from a tenth to a third of what comes, if so much is left.
func (d *dice) truth(r api.WoolRoad, came, kind int) truth {
	var x truth
	thief := d.From(0, len(r.Stations)-1)
	for station, rate := range r.Stations {
		takes := d.From(came*rate.Low/1000, up(came*rate.High))
		stolen := 0
		if kind == oneThief && station == thief || kind == anyThieves && d.From(0, 1) == 0 {
			stolen = min(came-takes, d.From(came/10+1, came/3+1))
		}
		s := step{station, came, takes, stolen, came - takes - stolen}
		x, came = append(x, s), s.left
	}
	return x
}

// weighing makes a weighing that is right.
func (d *dice) weighing(x truth, point, most int) api.WoolWeighing {
	off := d.From(0, most)
	reading := x.weight(point) + d.From(-off, off)
	return weigh(point, max(0, min(reading, api.MaxWoolWeight)), off)
}

// spoil makes a weighing, but not the first one, wrong.
func (d *dice) spoil(r api.WoolRoad) {
	if len(r.Weighings) > 1 {
		w := &r.Weighings[d.From(1, len(r.Weighings)-1)]
		w.Reading = max(0, min(w.Reading+d.From(-w.Reading, w.Reading), api.MaxWoolWeight))
	}
}

// where asks what must not have an error but those that say that there is no such station.
func where(t *testing.T, r api.WoolRoad) []int {
	t.Helper()
	list, e := wool.Where(r)
	if e != api.OK && e != api.ErrTwice && e != api.ErrState {
		t.Fatalf("Where(%v) = %v, %d", r, list, e)
	}
	return list
}

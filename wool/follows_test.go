package wool_test

import (
	"fmt"
	"slices"
	"testing"

	"walkmill/api"
	"walkmill/samples"
	"walkmill/wool"
)

// tries is how many small roads a test of what follows looks at, and greatTries how many of any size.
const (
	tries      = 300
	greatTries = 40
)

// TestWeightsOfAllTruths is for P10.2, P10.3 and P10.11: from the least to the greatest number over all honest truths of small roads.
func TestWeightsOfAllTruths(t *testing.T) {
	d := dice{1}
	seen := samples.Cases{}
	for i := range tries {
		r, x := d.trip(small, i%2)
		points, stations := len(r.Stations)+1, len(r.Stations)
		weights, flocks := make([]api.Span, points), make([]api.Span, stations)
		n := 0
		for x := range truthsOf(r, nothing) {
			for point := range points {
				weights[point] = samples.Wider(weights[point], x.weight(point), n)
			}
			for station := range stations {
				flocks[station] = samples.Wider(flocks[station], x[station].takes, n)
			}
			n++
		}
		if n == 0 {
			samples.List[api.Span](t, fmt.Sprint("Weights of ", r), nil, api.ErrState)(wool.Weights(r))
			samples.List[api.Span](t, fmt.Sprint("Flocks of ", r), nil, api.ErrState)(wool.Flocks(r))
			seen["none"]++
			continue
		}
		samples.List(t, fmt.Sprint("Weights of ", r), weights, api.OK)(wool.Weights(r))
		samples.List(t, fmt.Sprint("Flocks of ", r), flocks, api.OK)(wool.Flocks(r))
		seen[fmt.Sprint(stations, " stations, a span: ", flocks[0].Low < flocks[0].High)]++
		if len(x.thieves()) == 0 {
			seen["thrown without a thief"]++
		}
	}
	seen.All(t, "none", "1 stations, a span: true", "2 stations, a span: true", "3 stations, a span: true", "3 stations, a span: false", "thrown without a thief")
}

// TestGreatWeights is for P10.2, P10.3 and P10.11: the same on roads of any size; what truly was lies there, and at no point the cloth can weigh more than before.
func TestGreatWeights(t *testing.T) {
	d := dice{2}
	seen := samples.Cases{}
	for range greatTries {
		r, x := d.trip(great, noThief)
		if d.From(0, 1) == 0 { // not weighed at first
			r.Weighings = r.Weighings[1:]
		}
		weights, e := wool.Weights(r)
		flocks, f := wool.Flocks(r)
		if e != api.OK || f != api.OK {
			t.Fatalf("%v has %v, but errors %d, %d", r, x, e, f)
		}
		for point, span := range weights {
			want, _ := ends(r, nothing, func(s step) int {
				if point == len(r.Stations) && s.station == point-1 {
					return s.left
				}
				if s.station == point {
					return s.came
				}
				return 0
			})
			if span != want || !samples.Lies(to(x.weight(point), x.weight(point)), span) {
				t.Fatalf("Weights(%v) = %v, not %v at %d, in truth %v", r, weights, want, point, x)
			}
			if point > 0 && (span.Low > weights[point-1].Low || span.High > weights[point-1].High) {
				t.Fatalf("Weights(%v) = %v: more at %d", r, weights, point)
			}
		}
		for station, span := range flocks {
			want, _ := ends(r, nothing, func(s step) int {
				if s.station == station {
					return s.takes
				}
				return 0
			})
			if span != want || !samples.Lies(to(x[station].takes, x[station].takes), span) {
				t.Fatalf("Flocks(%v) = %v, not %v at %d, in truth %v", r, flocks, want, station, x)
			}
		}
		seen[fmt.Sprint("many stations: ", len(r.Stations) > 2, ", many weighings: ", len(r.Weighings) > 3)]++
	}
	seen.All(t, "many stations: true, many weighings: true", "many stations: true, many weighings: false", "many stations: false, many weighings: true")
}

// TestMissingOfAllTruths is for P10.4 and P10.12: from the least to the greatest sum over all truths of small roads; it begins at 0 just if there is an honest truth.
func TestMissingOfAllTruths(t *testing.T) {
	d := dice{3}
	seen := samples.Cases{}
	for i := range tries {
		r, _ := d.trip([]measure{small, sharp}[i%2], d.From(0, 2))
		if d.From(0, 2) == 0 {
			d.spoil(r)
		}
		var want api.Span
		n := 0
		for x := range truthsOf(r, anything) {
			want = samples.Wider(want, x.stolen(), n)
			n++
		}
		if n == 0 {
			samples.Value(t, fmt.Sprint("Missing of ", r), to(0, 0), api.ErrState)(wool.Missing(r))
			seen["none"]++
			continue
		}
		samples.Value(t, fmt.Sprint("Missing of ", r), want, api.OK)(wool.Missing(r))
		_, e := wool.Weights(r)
		if (e == api.OK) != (want.Low == 0) {
			t.Fatalf("Missing(%v) = %v, Weights: %d", r, want, e)
		}
		seen[fmt.Sprint(len(r.Stations), " stations, stolen: ", want.Low > 0)]++
	}
	seen.All(t, "none", "1 stations, stolen: true", "2 stations, stolen: true", "3 stations, stolen: true", "3 stations, stolen: false")
}

// TestWhereOfAllTruths is for P10.5, P10.6 and P10.13: the stations that are alone in some truth of small roads, and what was stolen there.
func TestWhereOfAllTruths(t *testing.T) {
	d := dice{4}
	seen := samples.Cases{}
	for i := range tries {
		r, _ := d.trip([]measure{small, sharp}[i%2], d.From(0, 2))
		var list []int
		for station := range r.Stations {
			var amount api.Span
			n := 0
			for x := range truthsOf(r, just(station)) {
				amount = samples.Wider(amount, x.stolen(), n)
				n++
			}
			e := api.ErrState
			if n > 0 {
				list, e = append(list, station), api.OK
			}
			samples.Value(t, fmt.Sprint("Amount of ", r, station), amount, e)(wool.Amount(r, station))
			missing, _ := wool.Missing(r)
			if n > 0 && !samples.Lies(amount, missing) {
				t.Fatalf("Amount(%v, %d) = %v, of %v", r, station, amount, missing)
			}
		}
		switch {
		case possible(r, nothing):
			samples.List[int](t, fmt.Sprint("Where of ", r), nil, api.ErrTwice)(wool.Where(r))
			seen[fmt.Sprint("honest, stolen at some: ", len(list) > 0)]++
		case len(list) == 0:
			samples.List[int](t, fmt.Sprint("Where of ", r), nil, api.ErrState)(wool.Where(r))
			seen["at several"]++
		default:
			samples.List(t, fmt.Sprint("Where of ", r), list, api.OK)(wool.Where(r))
			seen[fmt.Sprint(len(list), " of ", len(r.Stations))]++
		}
	}
	seen.All(t, "honest, stolen at some: true", "at several", "1 of 1", "1 of 2", "2 of 2", "1 of 3", "2 of 3", "3 of 3")
}

// TestGreatThefts is for P10.4, P10.5, P10.6, P10.12 and P10.13: the same on roads of any size; what truly was stolen lies there.
func TestGreatThefts(t *testing.T) {
	d := dice{5}
	seen := samples.Cases{}
	sum := func(s step) int { return s.stolen }
	for i := range greatTries {
		r, x := d.trip(great, 1+i%2)
		missing, _ := ends(r, anything, sum)
		samples.Value(t, fmt.Sprint("Missing of ", r), missing, api.OK)(wool.Missing(r))
		if !samples.Lies(to(x.stolen(), x.stolen()), missing) {
			t.Fatalf("Missing(%v) = %v, in truth %v", r, missing, x)
		}
		truly := x.thieves()
		list := where(t, r)
		for station := range r.Stations {
			amount, found := ends(r, just(station), sum)
			e := api.OK
			if !found {
				e = api.ErrState
			}
			samples.Value(t, fmt.Sprint("Amount of ", r, station), amount, e)(wool.Amount(r, station))
			if found && !samples.Lies(amount, missing) {
				t.Fatalf("Amount(%v, %d) = %v, of %v", r, station, amount, missing)
			}
			if missing.Low > 0 && found != slices.Contains(list, station) {
				t.Fatalf("Where(%v) = %v, but Amount of %d: %v", r, list, station, amount)
			}
			if slices.Equal(truly, []int{station}) {
				if !samples.Lies(to(x.stolen(), x.stolen()), amount) {
					t.Fatalf("Amount(%v, %d) = %v, in truth %v", r, station, amount, x)
				}
				seen[fmt.Sprint("one thief, sure: ", missing.Low > 0)]++
			}
		}
		if len(truly) > 1 {
			seen[fmt.Sprint("thieves, sure: ", missing.Low > 0, ", can be one: ", len(list) > 0)]++
		}
	}
	seen.All(t, "one thief, sure: true", "one thief, sure: false", "thieves, sure: true, can be one: true", "thieves, sure: true, can be one: false")
}

// TestAWeighingMore is for P10.13: with one weighing more no station is added to Where, and neither Amount nor Missing is wider.
func TestAWeighingMore(t *testing.T) {
	d := dice{6}
	seen := samples.Cases{}
	for i := range tries {
		z := []measure{small, great}[i%2]
		z.weighings--
		r, x := d.trip(z, oneThief)
		known := more(r, d.weighing(x, d.From(0, len(x)), z.off))
		before, after := where(t, r), where(t, known)
		if possible(r, nothing) { // then Where has an error, and says nothing
			before = samples.UpTo(len(x))
		}
		for _, station := range after {
			if !slices.Contains(before, station) {
				t.Fatalf("Where(%v) = %v, of %v %v", r, before, known, after)
			}
		}
		if len(after) > 0 && len(after) < len(before) {
			seen["fewer stations"]++
		}
		was, _ := wool.Missing(r)
		is, e := wool.Missing(known)
		if e != api.OK || !samples.Lies(is, was) {
			t.Fatalf("Missing(%v) = %v, of %v %v, %d", r, was, known, is, e)
		}
		if is != was {
			seen["less missing"]++
		}
		for station := range x {
			was, e := wool.Amount(r, station)
			is, f := wool.Amount(known, station)
			if f == api.OK && (e != api.OK || !samples.Lies(is, was)) {
				t.Fatalf("Amount(%v, %d) = %v, of %v %v", r, station, was, known, is)
			}
			if f == api.OK && is != was {
				seen["a narrower amount"]++
			}
		}
	}
	seen.All(t, "fewer stations", "less missing", "a narrower amount")
}

// TestWrongOfAllSets is for P10.7 and P10.14: the first one of all sets of weighings without which there is an honest truth; no more than are wrong, if nothing was stolen.
func TestWrongOfAllSets(t *testing.T) {
	d := dice{7}
	seen := samples.Cases{}
	for i := range tries {
		z := []measure{small, great}[i%2]
		r, _ := d.trip(z, noThief)
		lies := d.From(0, 3)
		for range lies {
			d.spoil(r)
		}
		want := wrongOf(r)
		name := fmt.Sprint("Wrong of ", r)
		if len(want) == 0 {
			samples.List[int](t, name, nil, api.ErrTwice)(wool.Wrong(r))
			samples.List[int](t, name, nil, api.ErrTwice)(wool.Where(r))
			seen["none"]++
			continue
		}
		samples.List(t, name, want, api.OK)(wool.Wrong(r))
		if len(want) > lies {
			t.Fatalf("%s = %v, but only %d are", name, want, lies)
		}
		if _, e := wool.Weights(drop(r, want)); e != api.OK {
			t.Fatalf("%s = %v, but without them: %d", name, want, e)
		}
		for i := range want {
			fewer := slices.Delete(slices.Clone(want), i, i+1)
			samples.List[api.Span](t, name+" but one", nil, api.ErrState)(wool.Weights(drop(r, fewer)))
		}
		seen[fmt.Sprint(len(want), " wrong")]++
		seen[fmt.Sprint("the first is: ", want[0] == 0)]++
	}
	seen.All(t, "none", "1 wrong", "2 wrong", "the first is: true", "the first is: false")
}

// readings are, for each point, the stations of Where that can be the one with each integer that can be read there, of small roads.
func readings(r api.WoolRoad, list []int, off int) []map[int][]int {
	all := make([]map[int][]int, len(r.Stations)+1)
	for point := range all {
		all[point] = map[int][]int{}
	}
	for _, station := range list {
		for x := range truthsOf(r, just(station)) {
			for point, read := range all {
				for reading := x.weight(point) - off; reading <= x.weight(point)+off; reading++ {
					if !slices.Contains(read[reading], station) {
						read[reading] = append(read[reading], station)
					}
				}
			}
		}
	}
	return all
}

// TestLookOfAllReadings is for P10.8 and P10.15: the first point of those at which the fewest stations are left, over all that can be read there; with each of these readings besides, Where is what is left.
func TestLookOfAllReadings(t *testing.T) {
	d := dice{8}
	seen := samples.Cases{}
	for i := range 2 * tries {
		z := small
		if i%2 == 1 {
			z = sharp
			z.weighings = 4
		}
		r, _ := d.trip(z, oneThief)
		list, e := wool.Where(r)
		off := d.From(0, 2)
		name := fmt.Sprint("Look of ", r, off)
		if e != api.OK {
			samples.Two(t, name, 0, 0, e)(wool.Look(r, off))
			seen[fmt.Sprint("error ", e)]++
			continue
		}
		at, left := 0, len(list)
		all := readings(r, list, off)
		for point, read := range all {
			most := 0
			for _, stations := range read {
				most = max(most, len(stations))
			}
			if most < left {
				at, left = point, most
			}
		}
		if left == len(list) {
			samples.Two(t, name, 0, 0, api.ErrNone)(wool.Look(r, off))
			seen[fmt.Sprint("no point, of one: ", left == 1)]++
			continue
		}
		samples.Two(t, name, at, left, api.OK)(wool.Look(r, off))
		seen[fmt.Sprint(left, " left, at the first: ", at == 0)]++
		seen[fmt.Sprint("off: ", off > 0)]++
		for reading, stations := range all[at] {
			if reading >= 0 { // others are no weighings that a road can have
				samples.List(t, fmt.Sprint(name, ", and ", reading), stations, api.OK)(wool.Where(more(r, weigh(at, reading, off))))
			}
		}
	}
	seen.All(t, fmt.Sprint("error ", api.ErrTwice), "no point, of one: true", "no point, of one: false", "1 left, at the first: false", "2 left, at the first: false", "off: true", "off: false")
}

// TestCommonOfAllDays is for P10.9 and P10.15: the stations that can be the one on each day without an honest truth; what truly was the one is among them.
func TestCommonOfAllDays(t *testing.T) {
	d := dice{9}
	seen := samples.Cases{}
	for i := range tries {
		z := []measure{small, great}[i%2]
		first, x := d.trip(z, oneThief)
		stations, truly := len(x), x.thieves()
		list := days(first)
		same := len(truly) == 1 && d.From(0, 1) == 0 // the thief is at the same station each day
		for range d.From(0, api.MaxWoolDays-1) {
			r, y := d.trip(z, d.From(0, 1))
			for len(y) != stations || same && len(y.thieves()) > 0 && !slices.Equal(y.thieves(), truly) {
				r, y = d.trip(z, d.From(0, 1))
			}
			list = append(list, r)
		}
		want := samples.UpTo(stations)
		bad := 0
		for _, r := range list {
			if !possible(r, nothing) {
				bad++
				own := whereOf(r)
				want = slices.DeleteFunc(want, func(station int) bool { return !slices.Contains(own, station) })
			}
		}
		name := fmt.Sprint("Common of ", list)
		switch {
		case bad == 0:
			samples.List[int](t, name, nil, api.ErrTwice)(wool.Common(list))
			seen["all honest"]++
		case len(want) == 0:
			samples.List[int](t, name, nil, api.ErrState)(wool.Common(list))
			seen["none"]++
		default:
			samples.List(t, name, want, api.OK)(wool.Common(list))
			seen[fmt.Sprint("all: ", len(want) == stations, ", several days: ", bad > 1, ", an honest one: ", bad < len(list))]++
		}
		if bad > 0 && same {
			if !slices.Contains(want, truly[0]) {
				t.Fatalf("%s = %v, in truth %v", name, want, truly)
			}
			seen[fmt.Sprint("the same thief, several days: ", bad > 1)]++
		}
	}
	seen.All(t, "all honest", "none", "all: false, several days: true, an honest one: true", "all: false, several days: true, an honest one: false", "all: false, several days: false, an honest one: true", "all: true, several days: false, an honest one: false", "the same thief, several days: true")
}

// TestNeedOfAllTakes is for P10.10 and P10.16: the least weight of which as much as is wanted is left whatever is taken, and none of those below it.
func TestNeedOfAllTakes(t *testing.T) {
	d := dice{10}
	seen := samples.Cases{}
	for i := range tries {
		r, _ := d.trip(great, noThief)
		want := d.From(0, api.MaxWoolWeight)
		if i%2 == 0 {
			want = d.From(0, 60)
		}
		least := func(weight int) int {
			span, _ := ends(road(r.Stations, weigh(0, weight, 0)), nothing, func(s step) int {
				if s.station == len(r.Stations)-1 {
					return s.left
				}
				return 0
			})
			return span.Low
		}
		if least(api.MaxWoolWeight) < want {
			samples.Value(t, fmt.Sprint("Need of ", r, want), 0, api.ErrNone)(wool.Need(r, want))
			seen["too much"]++
			continue
		}
		need, e := wool.Need(r, want)
		if e != api.OK || least(need) < want || need > 0 && least(need-1) >= want {
			t.Fatalf("Need(%v, %d) = %d, %d", r, want, need, e)
		}
		seen[fmt.Sprint("more than is wanted: ", need > want)]++
	}
	seen.All(t, "too much", "more than is wanted: true")
}

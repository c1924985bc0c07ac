package wool

import (
	"maps"
	"slices"

	"walkmill/api"
)

// loot is what can have been stolen up to a point, by what the cloth weighs there.
type loot map[int]api.Span

// add makes a loot just so wide that it has what can have been stolen if the cloth has a weight.
func (l loot) add(weight int, stolen api.Span) {
	if known, ok := l[weight]; ok {
		stolen = around(known, stolen)
	}
	l[weight] = stolen
}

// all returns what can have been stolen, whatever the cloth weighs; it must have a weight.
func (l loot) all() api.Span {
	return around(slices.Collect(maps.Values(l))...)
}

// loot returns what can have been stolen on the whole road: nothing if there is no truth.
func (r road) loot() loot {
	known := r.known()
	if known == nil {
		return nil
	}
	sums := loot{}
	for weight := known[0].Low; weight <= known[0].High; weight++ {
		sums.add(weight, api.Span{})
	}
	for station := range len(r.Stations) {
		sums = r.more(station, sums, known[station+1])
	}
	return sums
}

// more returns what can have been stolen up to behind a station if one of some weights is left there, by what can have been before.
func (r road) more(station int, before loot, to weights) loot {
	after := loot{}
	for weight, sum := range before {
		takes, stolen := r.takes(station, weight), r.stolen(station)
		behind := r.left(station, weight).both(to)
		for left := behind.Low; left <= behind.High; left++ {
			gone := weight - left
			after.add(left, api.Span{
				Low:  sum.Low + max(stolen.Low, gone-takes.High),
				High: sum.High + min(stolen.High, gone-takes.Low),
			})
		}
	}
	return after
}

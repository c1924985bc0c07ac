package wool

import (
	"slices"

	"walkmill/api"
	"walkmill/valid"
)

// road is a road of a cloth, and how much can have been stolen at each of its stations.
type road struct {
	api.WoolRoad
	stolen func(station int) api.Span
}

// honest returns a road on which nothing was stolen.
func honest(r api.WoolRoad) road {
	return road{r, func(int) api.Span { return api.Span{} }}
}

// robbed returns a road on which anything can have been stolen.
func robbed(r api.WoolRoad) road {
	return road{r, func(int) api.Span { return api.Span{High: api.MaxWoolWeight} }}
}

// robbedAt returns a road on which something was stolen at just one station.
func robbedAt(r api.WoolRoad, place int) road {
	return road{r, func(station int) api.Span {
		if station != place {
			return api.Span{}
		}
		return api.Span{Low: 1, High: api.MaxWoolWeight}
	}}
}

// without returns a road without the weighings of a set.
func without(r api.WoolRoad, set []int) api.WoolRoad {
	var left []api.WoolWeighing
	for number, w := range r.Weighings {
		if !slices.Contains(set, number) {
			left = append(left, w)
		}
	}
	r.Weighings = left
	return r
}

// weighed returns what the cloth can weigh at a point by the weighings there alone.
func (r road) weighed(point int) weights {
	all := weights{0, api.MaxWoolWeight}
	for _, w := range r.Weighings {
		if w.At == point {
			all = all.both(near(w.Reading, w.Off))
		}
	}
	return all
}

// takes returns what a station can take of a weight.
func (r road) takes(station, weight int) api.Span {
	rate := r.Stations[station]
	return api.Span{Low: weight * rate.Low / 1000, High: (weight*rate.High + 999) / 1000}
}

// left returns what can be left of a weight behind a station.
//
// Of an ounce more there is left as much or an ounce more, at least and at most. So there is no gap in what can be left of weights without a gap, nor in those of them of which some others can be left.
func (r road) left(station, weight int) weights {
	takes, stolen := r.takes(station, weight), r.stolen(station)
	return weights{max(0, weight-takes.High-stolen.High), weight - takes.Low - stolen.Low}
}

// behind returns what can be left of some weights behind a station.
func (r road) behind(station int, from weights) weights {
	if from.none() {
		return from
	}
	return weights{r.left(station, from.Low).Low, r.left(station, from.High).High}
}

// leading returns those of some weights of which one of some others can be left behind a station.
func (r road) leading(station int, from, to weights) weights {
	leads := func(weight int) bool { return !r.left(station, weight).both(to).none() }
	for !from.none() && !leads(from.Low) {
		from.Low++
	}
	for !from.none() && !leads(from.High) {
		from.High--
	}
	return from
}

// points yields what the cloth can weigh at each point, by the weighings up to there.
func (r road) points(yield func(weights) bool) {
	here := r.weighed(0)
	for station := range len(r.Stations) {
		if !yield(here) {
			return
		}
		here = r.behind(station, here).both(r.weighed(station + 1))
	}
	yield(here)
}

// known returns what the cloth can weigh at each point by all weighings, or nothing if there is no truth.
func (r road) known() []weights {
	var list []weights
	for here := range r.points {
		list = append(list, here)
	}
	if slices.ContainsFunc(list, weights.none) {
		return nil
	}
	for station := range slices.Backward(r.Stations) {
		list[station] = r.leading(station, list[station], list[station+1])
	}
	return list
}

// possible reports whether there is a truth.
func (r road) possible() bool { return r.known() != nil }

// flocks returns what a station takes of some weights of each of which one of some others is left, if nothing is stolen.
func (r road) flocks(station int, from, to weights) api.Span {
	var list []api.Span
	for weight := from.Low; weight <= from.High; weight++ {
		left := r.left(station, weight).both(to)
		list = append(list, api.Span{Low: weight - left.High, High: weight - left.Low})
	}
	return around(list...)
}

// least returns what is left of a weight at the end of the road at least.
func (r road) least(weight int) int {
	for station := range len(r.Stations) {
		weight = r.left(station, weight).Low
	}
	return weight
}

// suspects returns at which stations something can have been stolen on each of some days, if it was at just one; all days have as many stations.
func suspects(days ...api.WoolRoad) []int {
	var list []int
	for station := range len(days[0].Stations) {
		if valid.All(func(r api.WoolRoad) bool { return robbedAt(r, station).possible() }, days...) {
			list = append(list, station)
		}
	}
	return list
}

// thefts returns, point by point, what the cloth can weigh there if something was stolen at just one of some stations, at each of which it can have been.
func thefts(r api.WoolRoad, stations ...int) [][]weights {
	list := make([][]weights, len(r.Stations)+1)
	for _, station := range stations {
		for point, w := range robbedAt(r, station).known() {
			list[point] = append(list[point], w)
		}
	}
	return list
}

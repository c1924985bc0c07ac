package tenter

import "walkmill/api"

// drying is a field in some weather.
type drying struct {
	api.TenterField
	weather []api.Span
}

// dry returns at which hour something with so much water is dry, that hangs from an hour on; the number of hours and 1 if it never is.
func (d drying) dry(water, from int, dries func(api.Span) int) int {
	hour := from
	for ; water > 0; hour++ {
		if hour >= len(d.weather) {
			return len(d.weather) + 1
		}
		water -= dries(d.weather[hour])
	}
	return hour
}

// earliest returns at which hour a cloth is dry if it has as little water as it can, and as much dries.
func (d drying) earliest(cloth, from int) int {
	return d.dry(d.Cloths[cloth].Water.Low, from, func(s api.Span) int { return s.High })
}

// latest returns at which hour a cloth is dry if it has as much water as it can, and as little dries.
func (d drying) latest(cloth, from int) int {
	return d.dry(d.Cloths[cloth].Water.High, from, func(s api.Span) int { return s.Low })
}

// late returns the latest hour at which a cloth can be hung, so that it surely is dry at the hour of the rain, and whether there is one.
func (d drying) late(cloth, rain int) (hour int, found bool) {
	for hour = rain; hour >= 0; hour-- {
		if d.latest(cloth, hour) <= rain {
			return hour, true
		}
	}
	return 0, false
}

// order returns the smallest list of the cloths of a set, which are hung one in each hour from an hour on, each no later than it can be, and whether there is one.
func (d drying) order(hour, rain int, left set) (list []int, found bool) {
	if left.size() == 0 {
		return nil, true
	}
	for cloth := range left.cloths {
		if d.latest(cloth, hour) > rain {
			continue
		}
		if list, found = d.order(hour+1, rain, left.without(cloth)); found {
			return append([]int{cloth}, list...), true
		}
	}
	return nil, false
}

package wool

import (
	"walkmill/api"
	"walkmill/valid"
)

func validStation(takes api.Span) bool {
	return valid.Span(takes, 0, api.MaxWoolTakes)
}

// validWeighing reports whether a weighing is valid, and at one of so many points.
func validWeighing(w api.WoolWeighing, points int) bool {
	return valid.Within(0, points-1, w.At) &&
		valid.Within(0, api.MaxWoolWeight, w.Reading) &&
		valid.Within(0, api.MaxWoolOff, w.Off)
}

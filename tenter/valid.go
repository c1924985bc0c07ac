package tenter

import (
	"walkmill/api"
	"walkmill/valid"
)

func validCloth(c api.TenterCloth) bool {
	return valid.Span(c.Long, 1, api.MaxTenterLong) && valid.Span(c.Water, 0, api.MaxTenterWater)
}

// validField reports whether what a field has is valid, but for how many cloths and tenters there are.
func validField(f api.TenterField) bool {
	return valid.All(validCloth, f.Cloths...) &&
		valid.Within(1, api.MaxTenterLong, f.Frames...) &&
		valid.Within(0, api.MaxTenterGap, f.Gap) &&
		valid.Within(0, api.MaxTenterStretch, f.Stretch)
}

// validWeather reports whether a span can be that of an hour.
func validWeather(dries api.Span) bool {
	return valid.Span(dries, 0, api.MaxTenterDries)
}

// validNumber reports whether a number is one of n cloths, or tenters.
func validNumber(number, n int) bool {
	return valid.Within(0, n-1, number)
}

// validNumbers reports whether a list has numbers of n cloths, one at least, each greater than the one before.
func validNumbers(list []int, n int) bool {
	least := 0
	for _, x := range list {
		if !valid.Within(least, n-1, x) {
			return false
		}
		least = x + 1
	}
	return len(list) > 0
}

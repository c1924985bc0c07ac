package cloth

import "walkmill/api"

// within reports whether all numbers are from low to high.
func within(low, high int, numbers ...int) bool {
	for _, x := range numbers {
		if x < low || x > high {
			return false
		}
	}
	return true
}

// all reports whether a condition holds for each element of a list.
func all[E any](holds func(E) bool, list ...E) bool {
	for _, x := range list {
		if !holds(x) {
			return false
		}
	}
	return true
}

// validSpan reports whether a span is valid from low to high, with ends that are at most apart from each other.
func validSpan(s api.Span, low, high, apart int) bool {
	// Only ends that are known to be within limits have a difference that surely fits into an int.
	return within(low, high, s.Low, s.High) && within(0, apart, s.High-s.Low)
}

func validSize(s api.Span) bool {
	return validSpan(s, 0, api.MaxClothSize, api.MaxClothSize)
}

func validRate(s api.Span) bool {
	return validSpan(s, 0, api.MaxClothRate, api.MaxClothGuess)
}

func validTrack(t api.ClothTrack) bool {
	return validSpan(t.First, 1, api.MaxClothSize, api.MaxClothDoubt) && validRate(t.Rate)
}

func validYarn(rates []api.Span) bool {
	return len(rates) == whats && all(validRate, rates...)
}

func validWhat(what api.ClothWhat) bool {
	return within(0, whats-1, int(what))
}

func validMeasure(m api.ClothMeasure) bool {
	return validWhat(m.What) &&
		within(0, api.MaxClothHours, m.Hour) &&
		within(0, api.MaxClothSize, m.Reading) &&
		within(0, api.MaxClothOff, m.Off)
}

package cloth

import (
	"walkmill/api"
	"walkmill/valid"
)

// validSpan reports whether a span is valid from low to high, with ends that are at most apart from each other.
func validSpan(s api.Span, low, high, apart int) bool {
	// Only ends that are known to be within limits have a difference that surely fits into an int.
	return valid.Span(s, low, high) && s.High-s.Low <= apart
}

func validSize(s api.Span) bool {
	return valid.Span(s, 0, api.MaxClothSize)
}

func validRate(s api.Span) bool {
	return validSpan(s, 0, api.MaxClothRate, api.MaxClothGuess)
}

func validTrack(t api.ClothTrack) bool {
	return validSpan(t.First, 1, api.MaxClothSize, api.MaxClothDoubt) && validRate(t.Rate)
}

func validYarn(rates []api.Span) bool {
	return len(rates) == whats && valid.All(validRate, rates...)
}

func validWhat(what api.ClothWhat) bool {
	return valid.Within(0, whats-1, int(what))
}

func validMeasure(m api.ClothMeasure) bool {
	return validWhat(m.What) &&
		valid.Within(0, api.MaxClothHours, m.Hour) &&
		valid.Within(0, api.MaxClothSize, m.Reading) &&
		valid.Within(0, api.MaxClothOff, m.Off)
}

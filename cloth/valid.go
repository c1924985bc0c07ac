package cloth

import (
	"walkmill/api"
	"walkmill/valid"
)

func validSize(s api.Span) bool {
	return valid.Span(s, 0, api.MaxClothSize)
}

func validRate(s api.Span) bool {
	return valid.Narrow(s, 0, api.MaxClothRate, api.MaxClothGuess)
}

func validTrack(t api.ClothTrack) bool {
	return valid.Narrow(t.First, 1, api.MaxClothSize, api.MaxClothDoubt) && validRate(t.Rate)
}

func validYarn(rates []api.Span) bool {
	return len(rates) == whats && valid.All(validRate, rates...)
}

func validWhat(what api.ClothWhat) bool {
	return valid.Within(0, whats-1, int(what))
}

func validMeasure(m api.ClothMeasure) bool {
	return validWhat(m.What) &&
		valid.Within(0, api.MaxClothHours, m.Hour) &&
		valid.Within(0, api.MaxClothSize, m.Reading) &&
		valid.Within(0, api.MaxClothOff, m.Off)
}

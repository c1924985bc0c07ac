package stock

import (
	"walkmill/api"
	"walkmill/valid"
)

// thickest is the greatest thickness that a cloth can name.
const thickest = 3 * api.MaxStockThick

func validPart(s api.Span) bool {
	return valid.Narrow(s, 0, api.MaxStockThick, api.MaxStockDoubt)
}

func validGain(s api.Span) bool {
	return valid.Narrow(s, 0, api.MaxStockGain, api.MaxStockDoubt)
}

// validBeating reports whether all but the parts and the measurings of a cloth with valid parts is valid.
func validBeating(c api.StockCloth) bool {
	return valid.All(validGain, c.Strong, c.Weak) && c.Weak.High <= c.Strong.Low &&
		valid.Within(1, api.MaxStockTurn, c.Turn) &&
		valid.Within(0, len(c.Parts)-1, c.Start) &&
		valid.Span(api.Span{Low: c.Full, High: c.Harm}, 0, thickest)
}

func validHour(hour int) bool {
	return valid.Within(0, api.MaxStockHours, hour)
}

func validOff(off int) bool {
	return valid.Within(0, api.MaxStockOff, off)
}

// validMeasure reports whether a measuring of a cloth of so many parts is valid.
func validMeasure(m api.StockMeasure, parts int) bool {
	return valid.Within(0, parts-1, m.Part) && validHour(m.Hour) && valid.Within(0, thickest, m.Reading) && validOff(m.Off)
}

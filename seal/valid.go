package seal

import (
	"walkmill/api"
	"walkmill/signs"
	"walkmill/valid"
)

// validStatute reports whether what a statute has is valid, but for how many kinds and numbers in Off there are.
func validStatute(s api.SealStatute) bool {
	return valid.All(validKind, s.Kinds...) &&
		valid.Within(0, api.MaxSealGrace, s.Grace) &&
		valid.Within(0, api.MaxSealFine, s.Fine) &&
		valid.Within(0, api.MaxSealOff, s.Off...)
}

func validKind(k api.SealKind) bool {
	return len(k.Sizes) == sizes &&
		valid.All(func(s api.Span) bool { return valid.Span(s, 0, api.MaxSealSize) }, k.Sizes...) &&
		validMark(k.Mark)
}

// validMark reports whether a mark is neither too short nor too long, and has letters only, or some other runes.
func validMark(mark string, others ...rune) bool {
	return signs.Only(mark, 1, api.MaxSealMark, 'a', 'z', others...)
}

func validReading(read []int) bool {
	return len(read) == sizes && valid.Within(0, api.MaxSealSize, read...)
}

func validStrike(s api.SealStrike) bool {
	return valid.Within(1, api.MaxSealDay, s.Day) && valid.Within(1, api.MaxSealNumber, s.Number)
}

// validRow reports whether a row of a book with so many kinds is valid.
func validRow(r api.SealRow, kinds int) bool {
	return valid.Within(0, kinds-1, r.Kind) && valid.Within(0, api.MaxSealSize, r.Reading)
}

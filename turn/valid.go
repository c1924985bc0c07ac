package turn

import (
	"slices"

	"walkmill/api"
	"walkmill/valid"
)

// each reports whether a list has each number below n once, and no other ones.
func each(n int, list ...int) bool {
	return len(list) == n && valid.All(func(x int) bool { return slices.Contains(list, x) }, numbers(n)...)
}

func validRanks(ranks []int) bool {
	return valid.Within(1, api.MaxTurnWeavers, len(ranks)) && each(len(ranks), ranks...)
}

// validCloth reports whether a cloth of one of so many weavers is valid.
func validCloth(c api.TurnCloth, weavers int) bool {
	return valid.Within(0, weavers-1, c.Weaver) && valid.Within(0, api.MaxTurnComes, c.Comes) && valid.Span(c.Hours, 1, api.MaxTurnStay)
}

func validStocks(stocks int) bool {
	return valid.Within(1, api.MaxTurnStocks, stocks)
}

func validLimit(limit int) bool {
	return valid.Within(0, api.MaxTurnLimit, limit)
}

// validJoin reports whether two cloths of a valid day can be brought as one.
func validJoin(d api.TurnDay, a, b int) bool {
	if !valid.Within(0, len(d.Cloths)-1, a, b) || a == b {
		return false
	}
	one, other := d.Cloths[a], d.Cloths[b]
	return one.Weaver == other.Weaver && one.Comes == other.Comes
}

package teasel

import (
	"walkmill/api"
	"walkmill/valid"
)

// sameRows reports whether all frames have as many rows as the first one, neither too few nor too many.
func sameRows(rack []api.TeaselFrame) bool {
	return valid.All(func(f api.TeaselFrame) bool {
		return valid.Within(1, api.MaxTeaselRows, len(f.Rows)) && len(f.Rows) == len(rack[0].Rows)
	}, rack...)
}

// validFrame reports whether a frame is valid, but for how many rows it has.
func validFrame(f api.TeaselFrame) bool {
	return valid.Within(0, api.MaxTeaselSharp, f.Rows...) &&
		valid.Narrow(f.Wears, 0, api.MaxTeaselWears, api.MaxTeaselDoubt)
}

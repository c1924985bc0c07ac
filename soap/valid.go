package soap

import (
	"slices"

	"walkmill/api"
	"walkmill/valid"
)

func validSort(s api.SoapSort) bool {
	return valid.Span(s.Takes, 0, api.MaxSoapTakes) &&
		valid.Within(0, api.MaxSoapPrice, s.Price) &&
		valid.Within(0, api.MaxSoapStains, s.Stains) &&
		valid.Within(0, api.MaxSoapHas, s.Has)
}

func validCloth(c api.SoapCloth) bool {
	return valid.Span(c.Weight, 1, api.MaxSoapWeight) &&
		valid.Span(c.Grease, 0, api.MaxSoapGrease) &&
		valid.Within(0, api.MaxSoapBears, c.Bears)
}

// validMix reports whether a list is a mix of a store.
func validMix(mix []int, store []api.SoapSort) bool {
	if len(mix) != len(store) {
		return false
	}
	for sort, pounds := range mix {
		if !valid.Within(0, store[sort].Has, pounds) {
			return false
		}
	}
	return true
}

func validBarrel(b api.SoapBarrel) bool {
	return valid.Within(1, api.MaxSoapSays, b.Says) &&
		valid.Within(0, api.MaxSoapGross, b.Gross) &&
		valid.Within(0, api.MaxSoapOff, b.Off) &&
		valid.Span(b.Tare, 0, api.MaxSoapTare)
}

// validTrial reports whether a trial of so many barrels is valid.
func validTrial(t api.SoapTrial, barrels int) bool {
	return len(t.Left) > 0 && len(t.Left) == len(t.Right) &&
		validBarrels(slices.Concat(t.Left, t.Right), barrels) &&
		valid.Within(int(api.SoapEven), int(api.SoapRight), int(t.Lighter))
}

// validBarrels reports whether a list has numbers of so many barrels, none of them twice.
func validBarrels(list []int, barrels int) bool {
	var laid [api.MaxSoapBarrels]bool
	for _, barrel := range list {
		if !valid.Within(0, barrels-1, barrel) || laid[barrel] {
			return false
		}
		laid[barrel] = true
	}
	return true
}

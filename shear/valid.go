package shear

import (
	"walkmill/api"
	"walkmill/valid"
)

func validNap(s api.Span) bool {
	return valid.Narrow(s, 0, api.MaxShearNap, api.MaxShearDoubt)
}

func validBlade(b api.ShearBlade) bool {
	return valid.Narrow(b.Bite, 0, api.MaxShearBite, api.MaxShearWaver) &&
		valid.Within(0, api.MaxShearDull, b.Dull)
}

func validJob(j api.ShearJob) bool {
	return valid.Within(1, api.MaxShearHours, j.Hours) &&
		valid.Within(0, api.MaxShearHours, j.Due)
}

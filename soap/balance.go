package soap

import (
	"slices"

	"walkmill/api"
)

// pound is how many ounces a pound is.
const pound = 16

// overweight returns how many ounces more than it says are in a barrel.
func overweight(b api.SoapBarrel) api.Span {
	more := b.Gross - pound*b.Says
	return api.Span{Low: more - b.Off - b.Tare.High, High: more + b.Off - b.Tare.Low}
}

// shows returns which pan is the lighter one in a trial that is not misread, if a barrel is the light one.
func shows(t api.SoapTrial, light int) api.SoapPan {
	switch {
	case slices.Contains(t.Left, light):
		return api.SoapLeft
	case slices.Contains(t.Right, light):
		return api.SoapRight
	}
	return api.SoapEven
}

// suspects returns the barrels that can be the light one if at most so many trials were misread.
func suspects(barrels int, trials []api.SoapTrial, wrong int) []int {
	var list []int
nextBarrel:
	for barrel := range barrels {
		misread := 0
		for _, t := range trials {
			if t.Lighter == shows(t, barrel) {
				continue
			}
			misread++
			if misread > wrong {
				continue nextBarrel
			}
		}
		list = append(list, barrel)
	}
	return list
}

// thirds returns how many trials find the light one of so many suspects.
func thirds(suspects int) int {
	trials := 0
	for suspects > 1 {
		// A trial tells on which pan, or that on none, the light one is: by thirds it leaves a third at most, rounded up, and no other way leaves fewer whatever it shows.
		suspects = (suspects + 2) / 3
		trials++
	}
	return trials
}

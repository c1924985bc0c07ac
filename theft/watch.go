package theft

import (
	"slices"

	"walkmill/api"
	"walkmill/sets"
)

// watch is sights of so many persons, and at which minutes cloths can have vanished.
type watch struct {
	persons int
	sights  []api.TheftSight
	gone    api.Span
}

// against returns the sights by which a person cannot have been on the field at a minute.
func (w watch) against(person, minute int) []int {
	var list []int
	for number, s := range w.sights {
		if s.Person == person && max(minute-s.Minute, s.Minute-minute) < s.Away {
			list = append(list, number)
		}
	}
	return list
}

// fewest returns the fewest sights that must be false if the cloths vanished when a person was on the field.
func (w watch) fewest(person int) []int {
	var lists [][]int
	for minute := w.gone.Low; minute <= w.gone.High; minute++ {
		lists = append(lists, w.against(person, minute))
	}
	return slices.MinFunc(lists, sets.Compare)
}

// thieves returns the persons who can have been on the field.
func (w watch) thieves() []int {
	var list []int
	for person := range w.persons {
		if len(w.fewest(person)) == 0 {
			list = append(list, person)
		}
	}
	return list
}

// lied returns the fewest sights that must be false if some person was on the field.
func (w watch) lied() []int {
	var lists [][]int
	for person := range w.persons {
		lists = append(lists, w.fewest(person))
	}
	return slices.MinFunc(lists, sets.Compare)
}

package seal

import (
	"cmp"

	"walkmill/api"
)

// strikes are seals, by their places in a list.
type strikes map[int]api.SealStrike

// without returns the seals of a list that are left if some are forged.
func without(l []api.SealStrike, forged []int) strikes {
	left := strikes{}
	for place, s := range l {
		left[place] = s
	}
	for _, place := range forged {
		delete(left, place)
	}
	return left
}

// own reports whether all seals can be the aulnager's own.
func (left strikes) own() bool {
	for a, one := range left {
		for b, other := range left {
			if a < b && !ascend(one, other) {
				return false
			}
		}
	}
	return true
}

// ascend reports whether the numbers of two seals are as the aulnager's own must be.
func ascend(a, b api.SealStrike) bool {
	days, numbers := cmp.Compare(a.Day, b.Day), cmp.Compare(a.Number, b.Number)
	return numbers != 0 && (days == 0 || days == numbers)
}

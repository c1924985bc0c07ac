package theft

import (
	"walkmill/api"
	"walkmill/sets"
	"walkmill/signs"
)

// strip is pieces that were cut from one cloth, side by side.
type strip []api.TheftPiece

// orders yields the orders in which the pieces can have lain: the smaller lists first.
func (s strip) orders(yield func([]int) bool) {
	for order := range sets.Orders(len(s)) {
		if s.lay(order) && !yield(order) {
			return
		}
	}
}

// lay reports whether the pieces can have lain in an order.
func (s strip) lay(order []int) bool {
	for place, piece := range order {
		if place > 0 && !fit(s[order[place-1]].Right, s[piece].Left) {
			return false
		}
	}
	return true
}

// fit reports whether two edges can be those of one cut.
func fit(right, left string) bool {
	return right != "" && signs.Meet(right, left)
}

// Package signs has texts of signs, some of which perhaps can be read no more.
package signs

import (
	"slices"

	"walkmill/valid"
)

// Unread stands for a sign that cannot be read.
const Unread = '?'

// Only reports whether a text has from low to high signs, each of them from first to last, or one of some others.
func Only(text string, low, high int, first, last rune, others ...rune) bool {
	if !valid.Within(low, high, len(text)) {
		return false
	}
	for _, sign := range text {
		if (sign < first || sign > last) && !slices.Contains(others, sign) {
			return false
		}
	}
	return true
}

// Meet reports whether two texts can have been the same: they have as many signs, and the same ones where both can be read.
func Meet(a, b string) bool {
	if len(a) != len(b) {
		return false
	}
	for place, sign := range a {
		other := rune(b[place])
		if sign != other && sign != Unread && other != Unread {
			return false
		}
	}
	return true
}

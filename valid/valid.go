// Package valid has the conditions that all layers ask of their arguments.
package valid

import "walkmill/api"

// Within reports whether all numbers are from low to high.
func Within(low, high int, numbers ...int) bool {
	for _, x := range numbers {
		if x < low || x > high {
			return false
		}
	}
	return true
}

// All reports whether a condition holds for each element of a list.
func All[E any](holds func(E) bool, list ...E) bool {
	for _, x := range list {
		if !holds(x) {
			return false
		}
	}
	return true
}

// Span reports whether a span is valid from low to high.
func Span(s api.Span, low, high int) bool {
	return Within(low, high, s.Low, s.High) && s.Low <= s.High
}

// Narrow reports whether a span is valid from low to high, with ends that are at most apart from each other.
func Narrow(s api.Span, low, high, apart int) bool {
	// Only ends that are known to be within limits have a difference that surely fits into an int.
	return Span(s, low, high) && s.High-s.Low <= apart
}

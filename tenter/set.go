package tenter

import (
	"cmp"
	"slices"

	"walkmill/api"
)

// set is some cloths of a field: whether each one is of them.
type set [api.MaxTenterCloths]bool

// upTo returns the set of the first n cloths.
func upTo(n int) set {
	var s set
	for cloth := range n {
		s[cloth] = true
	}
	return s
}

// cloths yields the cloths of a set: the smaller numbers first.
func (s set) cloths(yield func(cloth int) bool) {
	for cloth, in := range s {
		if in && !yield(cloth) {
			return
		}
	}
}

func (s set) list() []int { return slices.Collect(s.cloths) }

func (s set) size() int { return len(s.list()) }

// without returns a set without some cloths.
func (s set) without(cloths ...int) set {
	for _, cloth := range cloths {
		s[cloth] = false
	}
	return s
}

// parts yields the sets of cloths of a set: those with smaller lists first.
func (s set) parts(yield func(part set) bool) {
	if !yield(set{}) {
		return
	}
	behind := s
	for first := range s.cloths {
		behind[first] = false
		for part := range behind.parts {
			part[first] = true
			if !yield(part) {
				return
			}
		}
	}
}

// shortest returns the sets of cloths of a set: those of fewer cloths first, of equally many those with smaller lists.
func (s set) shortest() []set {
	return slices.SortedStableFunc(s.parts, func(a, b set) int {
		return cmp.Compare(a.size(), b.size())
	})
}

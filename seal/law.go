package seal

import (
	"iter"

	"walkmill/api"
	"walkmill/signs"
)

// The sizes of a cloth.
const (
	long = iota
	wide
	heavy
	sizes // how many there are
)

// box is from where to where each size of a cloth is.
type box [sizes]api.Span

// law is a statute.
type law struct{ api.SealStatute }

// box returns the sizes of a kind.
func (l law) box(kind int) box { return box(l.Kinds[kind].Sizes) }

// meet reports whether spans have an integer in common.
func meet(a, b api.Span) bool { return a.Low <= b.High && b.Low <= a.High }

// meeting yields the kinds, from one of them on, of which a cloth with sizes in a box can be.
func (l law) meeting(b box, from int) iter.Seq[int] {
	return func(yield func(kind int) bool) {
	nextKind:
		for kind := from; kind < len(l.Kinds); kind++ {
			own := l.box(kind)
			for size := range sizes {
				if !meet(b[size], own[size]) {
					continue nextKind
				}
			}
			if !yield(kind) {
				return
			}
		}
	}
}

// alike returns the pairs of kinds of which one cloth can be.
func (l law) alike() []api.SealPair {
	var list []api.SealPair
	for a := range l.Kinds {
		for b := range l.meeting(l.box(a), a+1) {
			list = append(list, api.SealPair{A: a, B: b})
		}
	}
	return list
}

// marked returns the kinds of which a seal with a torn mark can be.
func (l law) marked(torn string) []int {
	var list []int
	for number, kind := range l.Kinds {
		if signs.Meet(torn, kind.Mark) {
			list = append(list, number)
		}
	}
	return list
}

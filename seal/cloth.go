package seal

import (
	"iter"
	"slices"

	"walkmill/api"
)

// cloth is a cloth that was measured by the cord and the scales of a law.
type cloth struct {
	law
	can box // all truths
}

// measured returns the cloth of a reading.
func measured(l law, read []int) cloth {
	c := cloth{law: l}
	for size := range sizes {
		c.can[size] = api.Span{Low: max(0, read[size]-l.Off[size]), High: read[size] + l.Off[size]}
	}
	return c
}

// kinds yields the kinds of which the cloth possibly is.
func (c cloth) kinds(yield func(kind int) bool) { c.meeting(c.can, 0)(yield) }

// beyond returns by how much a size is beyond its span of a kind, from the least to the greatest number over all truths.
func (c cloth) beyond(kind, size int) api.Span {
	own, can := c.box(kind)[size], c.can[size]
	return api.Span{
		Low:  max(0, own.Low-can.High, can.Low-own.High),
		High: max(0, own.Low-can.Low, can.High-own.High),
	}
}

// surely reports whether the cloth is of a kind in all truths.
func (c cloth) surely(kind int) bool {
	for size := range sizes {
		if c.beyond(kind, size).High > 0 {
			return false
		}
	}
	return true
}

// fine returns with which fine the cloth can be sealed as of a kind, and whether it can be so in all truths, and in one.
func (c cloth) fine(kind int) (fine api.Span, surely, possibly bool) {
	surely, possibly = true, true
	for size := range sizes {
		beyond := c.beyond(kind, size)
		surely = surely && beyond.High <= c.Grace
		possibly = possibly && beyond.Low <= c.Grace
		// From one integer to the next a size is beyond by at most one more: if it can be beyond by less than Grace and by more, it can be so by just Grace.
		fine.Low += c.Fine * beyond.Low
		fine.High += c.Fine * min(beyond.High, c.Grace)
	}
	return fine, surely, possibly
}

// integers yields the integers of a span.
func integers(s api.Span) iter.Seq[int] {
	return func(yield func(int) bool) {
		for x := s.Low; x <= s.High; x++ {
			if !yield(x) {
				return
			}
		}
	}
}

// anew yields, for all that each size can be found to be, the size, and the cloth as it is known then.
func (c cloth) anew(yield func(size int, then cloth) bool) {
	for size := range sizes {
		for found := range integers(c.can[size]) {
			then := c
			then.can[size] = api.Span{Low: found, High: found}
			if !yield(size, then) {
				return
			}
		}
	}
}

// left returns of how many kinds the cloth possibly is.
func (c cloth) left() int { return len(slices.Collect(c.kinds)) }

// look returns the size that leaves the fewest kinds if it is measured anew, how many these are at most, and whether they are fewer than now.
func (c cloth) look() (size, left int, fewer bool) {
	var most [sizes]int
	for size, then := range c.anew {
		most[size] = max(most[size], then.left())
	}
	left = slices.Min(most[:])
	return slices.Index(most[:], left), left, left < c.left()
}

package tenter

import (
	"slices"

	"walkmill/api"
	"walkmill/valid"
)

// yard is a field, on which cloths are hung.
type yard struct {
	api.TenterField
	// hang is, for each tenter, how many of a set of cloths can hang on it and on those behind it, as far as this was asked.
	hang []map[set]int
}

func newYard(f api.TenterField) yard {
	y := yard{TenterField: f}
	for range f.Frames {
		y.hang = append(y.hang, map[set]int{})
	}
	return y
}

// joined returns a field with all its tenters, and the gaps between them, put together to one.
func joined(f api.TenterField) api.TenterField {
	long := -f.Gap // there is one gap less than there are tenters
	for _, frame := range f.Frames {
		long += frame + f.Gap
	}
	f.Frames = []int{long}
	return f
}

// all returns all cloths.
func (y yard) all() set { return upTo(len(y.Cloths)) }

// permitted returns at which length a cloth may hang at most by the statute, if its own length is known.
func (y yard) permitted(own int) int { return own * (1000 + y.Stretch) / 1000 }

// lengths returns at which lengths a cloth can be hung.
func (y yard) lengths(cloth int) api.Span {
	// It is most easily slack if it is as long as it can be, and stretched too much if it is as short.
	own := y.Cloths[cloth].Long
	s := api.Span{Low: own.High, High: y.permitted(own.Low)}
	if s.Low > s.High {
		return api.Span{Low: 1, High: 0}
	}
	return s
}

// hangs reports whether there is a length at which a cloth can be hung.
func (y yard) hangs(cloth int) bool {
	s := y.lengths(cloth)
	return s.Low <= s.High
}

// hangable returns the cloths that can be hung.
func (y yard) hangable() set {
	var s set
	for cloth := range y.Cloths {
		s[cloth] = y.hangs(cloth)
	}
	return s
}

// room returns how much of a tenter is left if cloths hang on it at their least lengths; it is below 0 if they are too long together.
func (y yard) room(frame int, cloths ...int) int {
	long := y.Frames[frame] + y.Gap // there is one gap less than there are cloths
	for _, cloth := range cloths {
		long -= y.lengths(cloth).Low + y.Gap
	}
	return long
}

// together reports whether cloths can hang on a tenter together.
func (y yard) together(frame int, cloths ...int) bool {
	return valid.All(y.hangs, cloths...) && y.room(frame, cloths...) >= 0
}

// fill returns which cloths of a set hang on a tenter if the most hang on it and on those behind it, and how many these are; of several such sets that with the smallest list.
func (y yard) fill(frame int, left set) (hung set, most int) {
	most = -1 // fewer than any
	for part := range left.parts {
		list := part.list()
		if !y.together(frame, list...) {
			continue
		}
		if n := len(list) + y.most(frame+1, left.without(list...)); n > most {
			hung, most = part, n
		}
	}
	return hung, most
}

// most returns how many cloths of a set can hang on a tenter and on those behind it.
func (y yard) most(frame int, left set) int {
	if frame == len(y.Frames) {
		return 0
	}
	n, asked := y.hang[frame][left]
	if !asked {
		_, n = y.fill(frame, left)
		y.hang[frame][left] = n
	}
	return n
}

// tight returns the smallest list of lengths at which cloths fill a tenter, and whether there is one.
func (y yard) tight(frame int, cloths []int) (list []int, found bool) {
	if !y.together(frame, cloths...) {
		return nil, false
	}
	left := y.room(frame, cloths...)
	list = make([]int, len(cloths))
	// In the smallest list the last cloths take what is left.
	for i, cloth := range slices.Backward(cloths) {
		s := y.lengths(cloth)
		list[i] = min(s.High, s.Low+left)
		left -= list[i] - s.Low
	}
	return list, left == 0
}

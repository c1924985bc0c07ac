package theft

import (
	"walkmill/api"
	"walkmill/signs"
)

// field is cloths, and pieces of them that were found.
type field struct {
	cloths []api.TheftCloth
	pieces []api.TheftPiece
	least  [][]int // how long each piece was at least, by the cloth of which it is
}

// found returns the field of some pieces.
func found(cloths []api.TheftCloth, pieces ...api.TheftPiece) field {
	f := field{cloths: cloths, pieces: pieces}
	for _, p := range pieces {
		var list []int
		for _, c := range cloths {
			list = append(list, least(p, c))
		}
		f.least = append(f.least, list)
	}
	return f
}

// least returns how long a piece was at least when it was cut, if it is of a cloth.
func least(p api.TheftPiece, c api.TheftCloth) int {
	// What was longer never becomes shorter than what was not, so a piece was shortest if it became as short as it can be, and was washed, and shrank, as little as it can.
	long := max(1, p.Long-p.Off)
	for range p.Washed.Low {
		long = before(long, c.Rate.Low)
	}
	return long
}

// before returns the least length that becomes so long when it is washed.
func before(long, rate int) int {
	x := long
	for x-x*rate/1000 < long {
		x++
	}
	return x
}

// like reports whether the threads and the mark of a piece can be those of a cloth.
func like(p api.TheftPiece, c api.TheftCloth) bool {
	return c.Threads.Low <= p.Threads && p.Threads <= c.Threads.High &&
		(p.Mark == "" || signs.Meet(p.Mark, c.Mark))
}

// way is of which cloth each piece is.
type way [api.MaxTheftPieces]int

// ways yields all ways: the smaller lists first.
func (f field) ways(yield func(way) bool) {
	last := len(f.pieces) - 1
	if last < 0 {
		yield(way{})
		return
	}
	for w := range f.first(last).ways {
		for number, c := range f.cloths {
			w[last] = number
			if like(f.pieces[last], c) && f.long(w, number) <= c.Long.High && !yield(w) {
				return
			}
		}
	}
}

// first returns the field of so many pieces alone.
func (f field) first(pieces int) field {
	f.pieces = f.pieces[:pieces]
	return f
}

// long returns how long the pieces of a cloth were together at least. All of them can have been as short as they can be in one truth: that in which the cloth shrinks least.
func (f field) long(w way, cloth int) int {
	long := 0
	for piece := range f.pieces {
		if w[piece] == cloth {
			long += f.least[piece][cloth]
		}
	}
	return long
}

// owners returns of which cloths a piece can be if no other one was found.
func owners(cloths []api.TheftCloth, p api.TheftPiece) []int {
	var list []int
	for w := range found(cloths, p).ways {
		list = append(list, w[0])
	}
	return list
}

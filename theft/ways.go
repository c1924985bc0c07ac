package theft

import (
	"slices"

	"walkmill/api"
	"walkmill/sets"
)

// ways are all ways of a field, one at least: the smaller ones first.
type ways []way

// counts returns in how many ways a piece is of each cloth.
func (l ways) counts(piece int) map[int]int {
	counts := map[int]int{}
	for _, w := range l {
		counts[w[piece]]++
	}
	return counts
}

// unsure is told instead of a cloth where there are several.
const unsure = -1

// sure returns of which cloth a piece is in all ways.
func (l ways) sure(piece int) int {
	for cloth, many := range l.counts(piece) {
		if many == len(l) {
			return cloth
		}
	}
	return unsure
}

// left returns how many ways are left at most if it is learned of which cloth a piece is.
func (l ways) left(piece int) int {
	most := 0
	for _, many := range l.counts(piece) {
		most = max(most, many)
	}
	return most
}

// ask returns the first one of so many pieces that leaves the fewest ways, how many these are at most, and whether they are fewer than now.
func (l ways) ask(pieces int) (piece, left int, fewer bool) {
	left = len(l)
	for number := range pieces {
		if most := l.left(number); most < left {
			piece, left, fewer = number, most, true
		}
	}
	return piece, left, fewer
}

// against returns the claims that are false in a way.
func (w way) against(claims []api.TheftClaim) []int {
	var list []int
	for number, c := range claims {
		if (w[c.Piece] == c.Cloth) != c.Is {
			list = append(list, number)
		}
	}
	return list
}

// wrong returns the fewest claims that are false in some way.
func (l ways) wrong(claims []api.TheftClaim) []int {
	var lists [][]int
	for _, w := range l {
		lists = append(lists, w.against(claims))
	}
	return slices.MinFunc(lists, sets.Compare)
}

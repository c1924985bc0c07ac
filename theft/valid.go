package theft

import (
	"walkmill/api"
	"walkmill/signs"
	"walkmill/valid"
)

func validCloth(c api.TheftCloth) bool {
	return valid.Span(c.Long, 1, api.MaxTheftLong) &&
		valid.Narrow(c.Rate, 0, api.MaxTheftRate, api.MaxTheftDoubt) &&
		valid.Span(c.Threads, 1, api.MaxTheftThreads) &&
		signs.Only(c.Mark, 1, api.MaxTheftMark, 'a', 'z')
}

func validPiece(p api.TheftPiece) bool {
	return valid.Within(1, api.MaxTheftLong, p.Long) &&
		valid.Within(0, api.MaxTheftOff, p.Off) &&
		valid.Within(1, api.MaxTheftThreads, p.Threads) &&
		valid.Span(p.Washed, 0, api.MaxTheftWashed) &&
		signs.Only(p.Mark, 0, api.MaxTheftMark, 'a', 'z', signs.Unread) &&
		valid.All(validEdge, p.Left, p.Right)
}

func validEdge(edge string) bool {
	return signs.Only(edge, 0, api.MaxTheftEdge, '0', '9', signs.Unread)
}

// validClaim reports whether a claim is of one of so many pieces and one of so many cloths.
func validClaim(c api.TheftClaim, pieces, cloths int) bool {
	return valid.Within(0, pieces-1, c.Piece) && valid.Within(0, cloths-1, c.Cloth)
}

// validSight reports whether a sight is valid, and of one of so many persons.
func validSight(s api.TheftSight, persons int) bool {
	return valid.Within(0, persons-1, s.Person) &&
		valid.Within(0, api.MaxTheftMinute, s.Minute) &&
		valid.Within(0, api.MaxTheftAway, s.Away)
}

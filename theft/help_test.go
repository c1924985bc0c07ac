package theft_test

import (
	"slices"
	"testing"

	"walkmill/api"
	"walkmill/samples"
	"walkmill/theft"
)

// to, cloth, piece, edged, is, isNot and sight write spans and what is made of them shortly.
func to(low, high int) api.Span { return api.Span{Low: low, High: high} }

func cloth(long, rate, threads api.Span, mark string) api.TheftCloth {
	return api.TheftCloth{Long: long, Rate: rate, Threads: threads, Mark: mark}
}

func piece(long, off, threads int, washed api.Span, mark string) api.TheftPiece {
	return api.TheftPiece{Long: long, Off: off, Threads: threads, Washed: washed, Mark: mark}
}

func edged(left, right string) api.TheftPiece {
	return api.TheftPiece{Long: 1, Threads: 1, Left: left, Right: right}
}

func is(piece, cloth int) api.TheftClaim {
	return api.TheftClaim{Piece: piece, Cloth: cloth, Is: true}
}

func isNot(piece, cloth int) api.TheftClaim { return api.TheftClaim{Piece: piece, Cloth: cloth} }

func sight(person, minute, away int) api.TheftSight {
	return api.TheftSight{Person: person, Minute: minute, Away: away}
}

// of are some cloths, some some pieces, say some claims, and saw some sights.
func of(cloths ...api.TheftCloth) []api.TheftCloth { return cloths }

func some(pieces ...api.TheftPiece) []api.TheftPiece { return pieces }

func say(claims ...api.TheftClaim) []api.TheftClaim { return claims }

func saw(sights ...api.TheftSight) []api.TheftSight { return sights }

// stolen are the cloths of the chapter's examples, and left its pieces, with what is left of the first one's mark.
func stolen() []api.TheftCloth {
	return of(cloth(to(300, 320), to(50, 60), to(20, 22), "anna"), cloth(to(200, 200), to(40, 40), to(21, 24), "kate"))
}

func left(mark string) []api.TheftPiece {
	return some(piece(140, 2, 21, to(1, 2), mark), piece(95, 0, 24, to(1, 1), ""), piece(100, 1, 22, to(0, 0), "?a??"))
}

// plain are cloths that do not shrink, of so many inches, and whose marks and threads are alike; bits are pieces of so many inches that were never washed, and can be of all of them.
func plain(lengths ...int) []api.TheftCloth {
	var list []api.TheftCloth
	for _, long := range lengths {
		list = append(list, cloth(to(long, long), to(0, 0), to(1, 1), "a"))
	}
	return list
}

func bits(lengths ...int) []api.TheftPiece {
	var list []api.TheftPiece
	for _, long := range lengths {
		list = append(list, piece(long, 0, 1, to(0, 0), ""))
	}
	return list
}

// set is a list with another element at a place.
func set[E any](list []E, at int, x E) []E {
	list = slices.Clone(list)
	list[at] = x
	return list
}

// without is a list that has no element at a place.
func without[E any](list []E, at int) []E { return slices.Delete(slices.Clone(list), at, at+1) }

// integers are the integers of a span.
func integers(s api.Span) []int {
	var list []int
	for x := s.Low; x <= s.High; x++ {
		list = append(list, x)
	}
	return list
}

// washed is how long a piece is that was washed so often.
func washed(long, rate, times int) int {
	for range times {
		long -= long * rate / 1000
	}
	return long
}

// became reports whether a piece that was so long when it was cut can be as long as it was found.
func became(p api.TheftPiece, long, rate int) bool {
	return slices.ContainsFunc(integers(p.Washed), func(times int) bool {
		now := washed(long, rate, times)
		return p.Long-p.Off <= now && now <= p.Long+p.Off
	})
}

// shortest is the least length, of all from 1 on, that a piece can have had if it shrinks by a rate.
func shortest(p api.TheftPiece, rate int) int {
	long := 1
	for !became(p, long, rate) {
		long++
	}
	return long
}

// shortestOf is the least length by each rate of a cloth.
func shortestOf(p api.TheftPiece, c api.TheftCloth) map[int]int {
	all := map[int]int{}
	for _, rate := range integers(c.Rate) {
		all[rate] = shortest(p, rate)
	}
	return all
}

// alike reports whether the threads and the mark of a piece are those of a cloth: the mark is that of the cloth without the letters at some places.
func alike(p api.TheftPiece, c api.TheftCloth) bool {
	return slices.Contains(integers(c.Threads), p.Threads) &&
		(p.Mark == "" || slices.ContainsFunc(samples.Sets(len(c.Mark)), func(places []int) bool { return samples.Tear(c.Mark, places...) == p.Mark }))
}

// waysOf are all lists of cloths, one for each piece, that are so in some truth.
func waysOf(cloths []api.TheftCloth, pieces []api.TheftPiece) [][]int {
	lengths := make([][]map[int]int, len(cloths)) // by the cloth, the piece and the rate
	same := make([][]bool, len(cloths))
	for c := range cloths {
		for _, p := range pieces {
			lengths[c] = append(lengths[c], shortestOf(p, cloths[c]))
			same[c] = append(same[c], alike(p, cloths[c]))
		}
	}
	room := func(list []int, c, rate int) bool {
		sum := 0
		for p, owner := range list {
			if owner == c {
				sum += lengths[c][p][rate]
			}
		}
		return slices.ContainsFunc(integers(cloths[c].Long), func(long int) bool { return sum <= long })
	}
	var all [][]int
next:
	for list := range samples.Lists(slices.Repeat([]api.Span{to(0, len(cloths)-1)}, len(pieces))...) {
		for p, c := range list {
			if !same[c][p] {
				continue next
			}
		}
		for c := range cloths {
			if !slices.ContainsFunc(integers(cloths[c].Rate), func(rate int) bool { return room(list, c, rate) }) {
				continue next
			}
		}
		all = append(all, list)
	}
	return all
}

// learned are the ways in which a piece is of a cloth.
func learned(ways [][]int, piece, cloth int) [][]int {
	return slices.DeleteFunc(slices.Clone(ways), func(list []int) bool { return list[piece] != cloth })
}

// holds reports whether a claim is true in a way.
func holds(c api.TheftClaim, way []int) bool {
	if c.Is {
		return way[c.Piece] == c.Cloth
	}
	return way[c.Piece] != c.Cloth
}

// agree reports whether all claims are true in some way.
func agree(ways [][]int, claims []api.TheftClaim) bool {
	return slices.ContainsFunc(ways, func(way []int) bool {
		return !slices.ContainsFunc(claims, func(c api.TheftClaim) bool { return !holds(c, way) })
	})
}

// meet reports whether two edges fit, sign by sign.
func meet(right, left string) bool {
	if len(right) != len(left) || len(right) < 1 {
		return false
	}
	for i := range len(right) {
		if right[i] != '?' && left[i] != '?' && right[i] != left[i] {
			return false
		}
	}
	return true
}

// laid are all orders in which pieces can have lain.
func laid(pieces []api.TheftPiece) [][]int {
	return slices.DeleteFunc(samples.Orders(len(pieces)), func(order []int) bool {
		for i := 1; i < len(order); i++ {
			if !meet(pieces[order[i-1]].Right, pieces[order[i]].Left) {
				return true
			}
		}
		return false
	})
}

// there reports whether a person can have been on the field at some minute.
func there(person int, sights []api.TheftSight, gone api.Span) bool {
	return slices.ContainsFunc(integers(gone), func(minute int) bool {
		return !slices.ContainsFunc(sights, func(s api.TheftSight) bool {
			return s.Person == person && s.Minute-s.Away < minute && minute < s.Minute+s.Away
		})
	})
}

// thievesOf are the persons who can have been on the field.
func thievesOf(persons int, sights []api.TheftSight, gone api.Span) []int {
	return slices.DeleteFunc(samples.UpTo(persons), func(person int) bool { return !there(person, sights, gone) })
}

// dice make what is tried here.
type dice struct{ samples.Dice }

// measure says which thefts are made: how many cloths and pieces, how long, by how much these shrink, how often they were washed, and how long marks are.
type measure struct{ cloths, pieces, long, rate, doubt, off, washed, threads, mark int }

// small thefts have few truths, great ones are of any valid size.
var (
	small = measure{cloths: 3, pieces: 4, long: 40, rate: 100, doubt: 3, off: 3, washed: 2, threads: 4, mark: 2}
	great = measure{cloths: api.MaxTheftCloths, pieces: api.MaxTheftPieces, long: api.MaxTheftLong, rate: api.MaxTheftRate, doubt: api.MaxTheftDoubt, off: api.MaxTheftOff, washed: api.MaxTheftWashed, threads: api.MaxTheftThreads, mark: api.MaxTheftMark}
)

// text makes a text of so many signs from first to last.
func (d *dice) text(signs int, first, last byte) string {
	var list []byte
	for range signs {
		list = append(list, byte(d.From(int(first), int(last))))
	}
	return string(list)
}

// fray is a text of which about one sign of so many cannot be read.
func (d *dice) fray(text string, of int) string {
	var places []int
	for place := range text {
		if d.From(1, of) == 1 {
			places = append(places, place)
		}
	}
	return samples.Tear(text, places...)
}

// cloth makes a cloth.
func (d *dice) cloth(z measure) api.TheftCloth {
	return cloth(d.Span(z.long/4, z.long, z.long/8), d.Span(0, z.rate, z.doubt), d.Span(1, z.threads, z.threads/2), d.text(d.From(1, z.mark), 'a', 'b'))
}

// loot is cloths and pieces that truly are of them: of which, how long they truly were when they were cut, and by how much the cloths truly shrink.
type loot struct {
	cloths []api.TheftCloth
	pieces []api.TheftPiece
	owners []int
	cut    []int
	rates  []int
}

// loot makes a theft, with one piece at least.
func (d *dice) loot(z measure) loot {
	var l loot
	var left []int // of each cloth
	for range d.From(1, z.cloths) {
		c := d.cloth(z)
		l.cloths, l.rates = append(l.cloths, c), append(l.rates, d.From(c.Rate.Low, c.Rate.High))
		left = append(left, d.From(c.Long.Low, c.Long.High))
	}
	for range d.From(1, z.pieces) {
		owner := d.From(0, len(l.cloths)-1)
		if left[owner] == 0 {
			continue
		}
		cut := d.From(left[owner]/3+1, left[owner])
		left[owner] -= cut
		l.owners, l.cut = append(l.owners, owner), append(l.cut, cut)
		l.pieces = append(l.pieces, d.found(z, l.cloths[owner], cut, l.rates[owner]))
	}
	return l
}

// found makes a piece of a cloth that was so long when it was cut, and shrinks so much.
func (d *dice) found(z measure, c api.TheftCloth, cut, rate int) api.TheftPiece {
	times, off := d.From(0, z.washed), d.From(0, z.off)
	p := piece(washed(cut, rate, times)+d.From(-off, off), off, d.From(c.Threads.Low, c.Threads.High), to(d.From(0, times), d.From(times, z.washed)), "")
	p.Long = max(1, min(p.Long, api.MaxTheftLong))
	if d.From(0, 1) == 0 {
		p.Mark = d.fray(c.Mark, 2)
	}
	return p
}

// claims makes so many claims of pieces, about half of which are true in a way.
func (d *dice) claims(l loot, many int) []api.TheftClaim {
	var list []api.TheftClaim
	for range many {
		list = append(list, api.TheftClaim{Piece: d.From(0, len(l.pieces)-1), Cloth: d.From(0, len(l.cloths)-1), Is: d.From(0, 1) == 0})
	}
	return list
}

// strip makes pieces that truly lay side by side, and how they did.
func (d *dice) strip(many, frayed int) (pieces []api.TheftPiece, order []int) {
	order = d.Mixed(many)
	pieces = make([]api.TheftPiece, many)
	left := d.text(d.From(0, 2), '1', '2')
	for _, number := range order {
		right := d.text(d.From(1, 2), '1', '2')
		pieces[number] = edged(d.fray(left, frayed), d.fray(right, frayed))
		left = right
	}
	return pieces, order
}

// night makes sights of so many persons, about when the cloths vanished.
func (d *dice) night(persons, many int, gone api.Span) []api.TheftSight {
	var list []api.TheftSight
	for range many {
		minute := d.From(max(0, gone.Low-20), min(api.MaxTheftMinute, gone.High+20))
		list = append(list, sight(d.From(0, persons-1), minute, d.From(0, 30)))
	}
	return list
}

// ways, owners and least ask what must not have an error.
func ways(t *testing.T, cloths []api.TheftCloth, pieces []api.TheftPiece) int {
	t.Helper()
	many, first, e := theft.Ways(cloths, pieces)
	if e != api.OK {
		t.Fatalf("Ways(%v, %v) = %d, %v, %d", cloths, pieces, many, first, e)
	}
	return many
}

func owners(t *testing.T, cloths []api.TheftCloth, pieces []api.TheftPiece) [][]int {
	t.Helper()
	list, e := theft.Owners(cloths, pieces)
	if e != api.OK {
		t.Fatalf("Owners(%v, %v) = %v, %d", cloths, pieces, list, e)
	}
	return list
}

func least(t *testing.T, cloths []api.TheftCloth, pieces []api.TheftPiece, cloth int) []int {
	t.Helper()
	list, e := theft.Least(cloths, pieces, cloth)
	if e != api.OK {
		t.Fatalf("Least(%v, %v, %d) = %v, %d", cloths, pieces, cloth, list, e)
	}
	return list
}

// counted fails unless there are so many, and the first one, with their error.
func counted(t *testing.T, name string, many int, first []int, error api.Errno) func(many int, first []int, e api.Errno) {
	return func(n int, list []int, e api.Errno) {
		t.Helper()
		if n != many || !slices.Equal(list, first) || e != error {
			t.Errorf("%s = %d, %v, %d, not %d, %v, %d", name, n, list, e, many, first, error)
		}
	}
}

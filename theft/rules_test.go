package theft_test

import (
	"fmt"
	"math"
	"slices"
	"strings"
	"testing"

	"walkmill/api"
	"walkmill/samples"
	"walkmill/theft"
)

// question is what the functions are asked.
type question struct {
	cloths  []api.TheftCloth
	pieces  []api.TheftPiece
	cloth   int
	claims  []api.TheftClaim
	persons int
	sights  []api.TheftSight
	gone    api.Span
}

// ask returns the results of all functions.
func ask(q question) []any {
	all := []any{theft.Check(q.cloths, q.pieces)}
	collect := func(results ...any) { all = append(all, results...) }
	least, e := theft.Least(q.cloths, q.pieces, q.cloth)
	collect(least, e)
	owners, e := theft.Owners(q.cloths, q.pieces)
	collect(owners, e)
	many, first, e := theft.Ways(q.cloths, q.pieces)
	collect(many, first, e)
	sure, e := theft.Sure(q.cloths, q.pieces)
	collect(sure, e)
	piece, left, e := theft.Ask(q.cloths, q.pieces)
	collect(piece, left, e)
	wrong, e := theft.False(q.cloths, q.pieces, q.claims)
	collect(wrong, e)
	orders, order, e := theft.Lay(q.pieces)
	collect(orders, order, e)
	thieves, e := theft.Thieves(q.persons, q.sights, q.gone)
	collect(thieves, e)
	lied, e := theft.Lied(q.persons, q.sights, q.gone)
	collect(lied, e)
	return all
}

// copied is a question that shares no memory with another one.
func copied(q question) question {
	q.cloths, q.pieces, q.claims, q.sights = slices.Clone(q.cloths), slices.Clone(q.pieces), slices.Clone(q.claims), slices.Clone(q.sights)
	return q
}

// tame makes questions that are valid.
func tame(d *dice) question {
	l := d.mixed()
	q := question{cloths: l.cloths, pieces: l.pieces, cloth: d.From(0, len(l.cloths)-1), persons: d.From(1, 3), gone: d.Span(0, api.MaxTheftMinute, 8)}
	side, _ := d.strip(len(q.pieces), 2)
	for i, p := range side {
		q.pieces[i].Left, q.pieces[i].Right = p.Left, p.Right
	}
	q.claims = d.claims(l, d.From(0, api.MaxTheftClaims))
	q.sights = d.night(q.persons, d.From(0, api.MaxTheftSights), q.gone)
	return q
}

// wild makes questions with any numbers and texts, many of which are not valid.
func wild(d *dice) question {
	number := func() int {
		return []int{math.MinInt, -30, -1, 0, 1, 2, 3, 5, 20, 21, 99, 100, 600, 1440, math.MaxInt - 1, math.MaxInt}[d.From(0, 15)]
	}
	text := func() string {
		return []string{"", "a", "?", "12", "a?", "1?", "\xff", "é", "A", strings.Repeat("?", 9)}[d.From(0, 9)]
	}
	q := tame(d)
	switch d.From(0, 11) {
	case 0:
		q.cloths = append(q.cloths, cloth(to(number(), number()), to(number(), number()), to(number(), number()), text()))
	case 1:
		q.cloths[0].Long, q.cloths[0].Rate = to(number(), number()), to(number(), number())
	case 2:
		q.cloths[0].Mark = text()
	case 3:
		q.pieces = append(q.pieces, piece(number(), number(), number(), to(number(), number()), text()))
	case 4:
		q.pieces[0].Washed, q.pieces[0].Off = to(number(), number()), number()
	case 5:
		q.pieces[0].Mark, q.pieces[0].Left, q.pieces[0].Right = text(), text(), text()
	case 6:
		q.cloth, q.persons = number(), number()
	case 7:
		q.claims = append(q.claims, is(number(), number()))
	case 8:
		q.sights = append(q.sights, sight(number(), number(), number()))
	case 9:
		q.gone = to(number(), number())
	case 10:
		q.pieces[0].Long = d.From(1, api.MaxTheftLong)
	}
	if d.From(0, 9) == 0 {
		n := d.From(0, 4)
		q.cloths, q.pieces = slices.Repeat(q.cloths, n), slices.Repeat(q.pieces, n)
		q.claims, q.sights = slices.Repeat(q.claims, n), slices.Repeat(q.sights, n)
	}
	return q
}

// TestAnyArguments is for P1 and P2: whatever the arguments are, each function ends, does not panic, and answers alike.
func TestAnyArguments(t *testing.T) {
	d := dice{12}
	thrown := func() question { return wild(&d) }
	samples.AnyArguments(t, 2000, thrown, copied, ask, fmt.Sprint, api.OK, api.ErrArg, api.ErrRange, api.ErrForm, api.ErrLong, api.ErrTwice, api.ErrNone, api.ErrFull, api.ErrState)
}

// spare is a question whose lists have spare room, and one with all of this room.
func spare(q question) (with, room question) {
	with = q
	with.cloths, with.pieces = samples.Roomy(q.cloths, plain(7)[0]), samples.Roomy(q.pieces, bits(7)[0])
	with.claims, with.sights = samples.Roomy(q.claims, is(7, 7)), samples.Roomy(q.sights, sight(7, 7, 7))
	room = with
	room.cloths, room.pieces = with.cloths[:len(q.cloths)+2], with.pieces[:len(q.pieces)+2]
	room.claims, room.sights = with.claims[:len(q.claims)+2], with.sights[:len(q.sights)+2]
	return with, room
}

// TestMemory is for P2, R3 and R4: no argument is changed, nor what lies behind its end, and no result shares memory with one.
func TestMemory(t *testing.T) {
	d := dice{13}
	thrown := func() (q, room question) { return spare(tame(&d)) }
	samples.OwnMemory(t, 200, thrown, ask, func(result any) {
		switch l := result.(type) {
		case []int:
			samples.Wipe(l)
		case [][]int:
			samples.WipeAll(l)
		}
	}, fmt.Sprint)
}

// TestOwnLists is for R4: the lists of a result share no memory with each other.
func TestOwnLists(t *testing.T) {
	samples.OwnLists(t, owners(t, plain(9, 9, 9, 9, 9), bits(9, 9, 9, 9, 9, 9)), fmt.Sprint)
}

// TestNil is for R3: a nil list and an empty one are answered alike.
func TestNil(t *testing.T) {
	same := func(bare, empty question) {
		t.Helper()
		if a, b := ask(bare), ask(empty); fmt.Sprint(a) != fmt.Sprint(b) {
			t.Errorf("nil is answered with %v, empty with %v", a, b)
		}
	}
	bare := question{cloths: stolen(), pieces: left("????"), persons: 2, gone: to(1, 2)}
	empty := bare
	empty.claims, empty.sights = say(), saw()
	same(bare, empty)
	bare.pieces, empty.pieces = nil, some()
	same(bare, empty)
	bare.cloths, empty.cloths = nil, of()
	same(bare, empty)
}

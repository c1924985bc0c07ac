package wool_test

import (
	"fmt"
	"math"
	"slices"
	"testing"

	"walkmill/api"
	"walkmill/samples"
	"walkmill/wool"
)

// question is what the functions are asked: of the first of some days, and of all.
type question struct {
	days          []api.WoolRoad
	station, want int
	off           int
}

// ask returns the results of all functions.
func ask(q question) []any {
	var r api.WoolRoad
	if len(q.days) > 0 {
		r = q.days[0]
	}
	all := []any{wool.Check(r)}
	collect := func(results ...any) { all = append(all, results...) }
	weights, e := wool.Weights(r)
	collect(weights, e)
	flocks, e := wool.Flocks(r)
	collect(flocks, e)
	missing, e := wool.Missing(r)
	collect(missing, e)
	where, e := wool.Where(r)
	collect(where, e)
	amount, e := wool.Amount(r, q.station)
	collect(amount, e)
	wrong, e := wool.Wrong(r)
	collect(wrong, e)
	at, left, e := wool.Look(r, q.off)
	collect(at, left, e)
	common, e := wool.Common(q.days)
	collect(common, e)
	need, e := wool.Need(r, q.want)
	collect(need, e)
	return all
}

// copied is a question that shares no memory with another one.
func copied(q question) question {
	q.days = slices.Clone(q.days)
	for i, r := range q.days {
		q.days[i] = road(slices.Clone(r.Stations), slices.Clone(r.Weighings)...)
	}
	return q
}

// tame makes questions that are valid; a weighing of some of them is wrong.
func tame(d *dice) question {
	var q question
	stations := 0
	for range d.From(1, 3) {
		r, x := d.trip(great, d.From(0, 2))
		if d.From(0, 1) == 0 {
			d.spoil(r)
		}
		if stations == 0 {
			stations = len(x)
		}
		if len(x) == stations {
			q.days = append(q.days, r)
		}
	}
	q.station, q.want, q.off = d.From(0, stations-1), d.From(0, api.MaxWoolWeight), d.From(0, api.MaxWoolOff)
	return q
}

// wild makes questions with any numbers, many of which are not valid.
func wild(d *dice) question {
	number := func() int {
		return []int{math.MinInt, -30, -1, 0, 1, 2, 3, 5, 20, 21, 99, 300, 301, 400, 401, math.MaxInt - 1, math.MaxInt}[d.From(0, 16)]
	}
	q := tame(d)
	r := &q.days[d.From(0, len(q.days)-1)]
	switch d.From(0, 7) {
	case 0:
		r.Stations[0] = to(number(), number())
	case 1:
		r.Stations = append(r.Stations, to(number(), number()))
	case 2:
		r.Weighings[0] = weigh(number(), number(), number())
	case 3:
		r.Weighings = append(r.Weighings, weigh(0, number(), number()))
	case 4:
		q.station, q.want, q.off = number(), number(), number()
	case 5:
		r.Stations = slices.Repeat(r.Stations, d.From(0, 2))
	case 6:
		r.Weighings = slices.Repeat(r.Weighings, d.From(0, 2))
	}
	if d.From(0, 9) == 0 {
		q.days = slices.Repeat(q.days, d.From(0, 4))
	}
	return copied(q) // no two days share memory
}

// TestAnyArguments is for P1 and P2: whatever the arguments are, each function ends, does not panic, and answers alike.
func TestAnyArguments(t *testing.T) {
	d := dice{11}
	thrown := func() question { return wild(&d) }
	samples.AnyArguments(t, 400, thrown, copied, ask, fmt.Sprint, api.OK, api.ErrArg, api.ErrRange, api.ErrForm, api.ErrLong, api.ErrTwice, api.ErrNone, api.ErrFull, api.ErrState)
}

// spare is a question whose lists have spare room, and one with all of this room.
func spare(q question) (with, room question) {
	for _, r := range q.days {
		with.days = append(with.days, api.WoolRoad{Stations: samples.Roomy(r.Stations, to(7, 7)), Weighings: samples.Roomy(r.Weighings, weigh(0, 7, 7))})
	}
	with.days = samples.Roomy(with.days, mill(150))
	with.station, with.want, with.off = q.station, q.want, q.off
	room = with
	room.days = slices.Clone(with.days[:len(q.days)+2])
	for i, r := range with.days {
		room.days[i] = api.WoolRoad{Stations: r.Stations[:len(r.Stations)+2], Weighings: r.Weighings[:len(r.Weighings)+2]}
	}
	return with, room
}

// TestMemory is for P2, R3 and R4: no argument is changed, nor what lies behind its end, and no result shares memory with one.
func TestMemory(t *testing.T) {
	d := dice{12}
	thrown := func() (q, room question) { return spare(tame(&d)) }
	samples.OwnMemory(t, 60, thrown, ask, func(result any) {
		switch l := result.(type) {
		case []int:
			samples.Wipe(l)
		case []api.Span:
			samples.Wipe(l)
		}
	}, fmt.Sprint)
}

// TestDaysAreKept is for R4: the list of days is left as it was, also those of them that are honest, and what lies behind its end.
func TestDaysAreKept(t *testing.T) {
	list := days(mill(150), mill(140), mill(150), mill(140, weigh(1, 148, 0)), mill(100))
	before := fmt.Sprint(list)
	samples.List(t, "Common", []int{0}, api.OK)(wool.Common(list[:4]))
	samples.List[int](t, "Common of honest days", nil, api.ErrTwice)(wool.Common(list[:1]))
	if after := fmt.Sprint(list); after != before {
		t.Errorf("%s is changed to %s", before, after)
	}
}

// TestNil is for R3: a nil list and an empty one are answered alike.
func TestNil(t *testing.T) {
	same := func(bare, empty question) {
		t.Helper()
		if a, b := ask(bare), ask(empty); fmt.Sprint(a) != fmt.Sprint(b) {
			t.Errorf("nil is answered with %v, empty with %v", a, b)
		}
	}
	same(question{days: days(road(bare(2)))}, question{days: days(road(bare(2), some()...))})
	same(question{days: days(api.WoolRoad{})}, question{days: days(road(spans(), some()...))})
	same(question{}, question{days: days()})
}

package teasel_test

import (
	"fmt"
	"math"
	"slices"
	"testing"

	"walkmill/api"
	"walkmill/samples"
	"walkmill/teasel"
)

// question is what the functions are asked.
type question struct {
	rack          []api.TeaselFrame
	plan          []api.TeaselPass
	nap           []int
	limit         int
	need, harm    int
	blunt, passes int
}

// ask returns the results of all functions.
func ask(q question) []any {
	all := []any{teasel.Check(q.rack)}
	collect := func(results ...any) { all = append(all, results...) }
	spans, e := teasel.Raise(q.rack, q.plan)
	collect(spans, e)
	left, e := teasel.Left(q.rack, q.plan)
	collect(left, e)
	surely, possibly, e := teasel.Even(q.rack, q.plan, q.limit)
	collect(surely, possibly, e)
	pass, apart, e := teasel.Turned(q.rack, q.plan)
	collect(pass, apart, e)
	plan, e := teasel.Fewest(q.rack, q.need, q.harm)
	collect(plan, e)
	lives, e := teasel.Lives(q.rack, q.blunt)
	collect(lives, e)
	cloths, e := teasel.Cloths(q.rack, q.blunt, q.passes)
	collect(cloths, e)
	total, e := teasel.Total(q.rack, q.blunt)
	collect(total, e)
	schedule, e := teasel.Schedule(q.rack, q.blunt)
	collect(schedule, e)
	guilty, e := teasel.Guilty(q.rack, q.plan, q.nap)
	collect(guilty, e)
	return all
}

// copied is a question that shares no memory with another one.
func copied(q question) question {
	q.rack, q.plan, q.nap = twin(q.rack), slices.Clone(q.plan), slices.Clone(q.nap)
	return q
}

// tame makes questions that are valid.
func tame(d *dice) question {
	z := small
	if d.From(0, 9) == 0 {
		z = great
	}
	q := question{rack: d.rack(z), limit: d.From(0, 9), blunt: d.From(1, z.sharp), passes: d.From(1, api.MaxTeaselPasses)}
	q.plan = d.plan(q.rack, 4)
	all := rows(q.rack)
	r := all[d.From(0, len(all)-1)]
	q.nap = naps(blunter(q.rack, r, d.From(0, q.rack[r.Frame].Rows[r.Row])), d.truth(q.rack), q.plan)
	q.need = d.From(0, min(slices.Min(q.nap), 3*z.sharp))
	q.harm = d.From(q.need, 5*z.sharp)
	return q
}

// wild makes questions with any numbers, many of which are not valid.
func wild(d *dice) question {
	number := func() int {
		return []int{math.MinInt, -30, -1, 0, 1, 2, 3, 5, 10, 11, 60, 61, 1000, 1001, math.MaxInt - 1, math.MaxInt}[d.From(0, 15)]
	}
	q := tame(d)
	switch d.From(0, 10) {
	case 0:
		q.rack = append(q.rack, frame(to(number(), number()), number(), number()))
	case 1:
		f := &q.rack[d.From(0, len(q.rack)-1)]
		f.Rows = f.Rows[1:]
	case 2:
		q.rack[0].Wears = to(number(), number())
	case 3:
		q.rack[0].Rows[0] = number()
	case 4:
		q.plan = append(q.plan, pass(number()))
	case 5:
		q.nap = append(q.nap[1:], number())
	case 6:
		q.limit, q.passes = number(), number()
	case 7:
		q.need, q.harm = number(), number()
	case 8:
		q.blunt = number()
	case 9:
		q.nap = append(q.nap, 1)
	}
	if d.From(0, 9) == 0 {
		n := d.From(0, 4)
		q.rack, q.plan, q.nap = slices.Repeat(q.rack, n), slices.Repeat(q.plan, n), slices.Repeat(q.nap, n)
	}
	return q
}

// TestAnyArguments is for P1 and P2: whatever the arguments are, each function ends, does not panic, and answers alike.
func TestAnyArguments(t *testing.T) {
	d := dice{12}
	thrown := func() question { return wild(&d) }
	samples.AnyArguments(t, 1000, thrown, copied, ask, fmt.Sprint, api.OK, api.ErrArg, api.ErrRange, api.ErrForm, api.ErrLong, api.ErrTwice, api.ErrNone, api.ErrFull, api.ErrState)
}

// spare is a question whose lists have spare room, and one with all of this room.
func spare(q question) (with, room question) {
	with = copied(q)
	with.plan, with.nap = samples.Roomy(q.plan, turned(7)), samples.Roomy(q.nap, 77)
	for i, f := range q.rack {
		with.rack[i].Rows = samples.Roomy(f.Rows, 77)
	}
	with.rack = samples.Roomy(with.rack, frame(to(7, 7), 7))
	room = with
	room.plan, room.nap = with.plan[:len(q.plan)+2], with.nap[:len(q.nap)+2]
	room.rack = slices.Clone(with.rack[:len(q.rack)+2])
	for i, f := range with.rack {
		room.rack[i].Rows = f.Rows[:len(f.Rows)+2]
	}
	return with, room
}

// TestMemory is for P2, R3 and R4: no argument is changed, nor what lies behind its end, and no result shares memory with one.
func TestMemory(t *testing.T) {
	d := dice{13}
	thrown := func() (q, room question) { return spare(tame(&d)) }
	samples.OwnMemory(t, 100, thrown, ask, func(result any) {
		switch l := result.(type) {
		case []api.Span:
			samples.Wipe(l)
		case []api.TeaselPass:
			samples.Wipe(l)
		case []api.TeaselRow:
			samples.Wipe(l)
		case [][]api.Span:
			samples.WipeAll(l)
		case [][]api.TeaselRow:
			samples.WipeAll(l)
		}
	}, fmt.Sprint)
}

// TestOwnLists is for R4: the lists of a result share no memory with each other.
func TestOwnLists(t *testing.T) {
	spans := left(t, many(3, 6), by(pass(0), pass(2)))
	samples.OwnLists(t, spans, fmt.Sprint)
	samples.OwnLists(t, last(t, many(3, 6), 1), fmt.Sprint)
	passes, e := teasel.Schedule(many(3, 6), 1)
	if e != api.OK || len(passes) < 2 {
		t.Fatalf("Schedule = %v, %d", passes, e)
	}
	samples.OwnLists(t, passes, fmt.Sprint)
}

// TestNil is for R3: a nil list and an empty one are answered alike.
func TestNil(t *testing.T) {
	same := func(bare, empty question) {
		t.Helper()
		if a, b := ask(bare), ask(empty); fmt.Sprint(a) != fmt.Sprint(b) {
			t.Errorf("nil is answered with %v, empty with %v", a, b)
		}
	}
	bare := question{rack: rack(), need: 14, harm: 40, blunt: 6, passes: 2}
	empty := bare
	empty.plan, empty.nap = []api.TeaselPass{}, []int{}
	same(bare, empty)
	bare.rack, empty.rack = of(frame(to(0, 0))), of(frame(to(0, 0), []int{}...))
	bare.rack[0].Rows, empty.rack[0].Rows = nil, []int{}
	same(bare, empty)
	bare.rack, empty.rack = nil, of()
	same(bare, empty)
}

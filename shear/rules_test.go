package shear_test

import (
	"fmt"
	"math"
	"slices"
	"testing"

	"walkmill/api"
	"walkmill/samples"
	"walkmill/shear"
)

// question is what the functions are asked.
type question struct {
	cloth api.ShearCloth
	blade api.ShearBlade
	done  api.ShearDone
	men   int
	jobs  []api.ShearJob
}

// ask returns the results of all functions.
func ask(q question) []any {
	c, b, plan := q.cloth, q.blade, q.done.Plan
	all := []any{shear.Check(c, b)}
	collect := func(results ...any) { all = append(all, results...) }
	nap, e := shear.After(c, b, plan)
	collect(nap, e)
	surely, possibly, e := shear.Even(c, b, plan)
	collect(surely, possibly, e)
	fewest, e := shear.Fewest(c, b)
	collect(fewest, e)
	needs, e := shear.Cuts(c, b)
	collect(needs, e)
	from, most, e := shear.Side(c, b, q.men)
	collect(from, most, e)
	stretch, left, e := shear.Look(c, b, plan)
	collect(stretch, left, e)
	missed, e := shear.Missed(c, b, q.done)
	collect(missed, e)
	order, late, e := shear.Order(q.jobs)
	collect(order, late, e)
	return all
}

// copied is a question that shares no memory with another one.
func copied(q question) question {
	q.cloth.Nap, q.jobs = slices.Clone(q.cloth.Nap), slices.Clone(q.jobs)
	q.done = found(slices.Clone(q.done.Plan), slices.Clone(q.done.Nap)...)
	return q
}

// tame makes questions that are valid.
func tame(d *dice) question {
	c, b, plan, x := d.shop([]measure{small, great}[d.From(0, 1)])
	nap, _ := d.missed(c, b, plan, x)
	return question{c, b, found(plan, nap...), d.From(1, api.MaxShearMen), d.jobs(5, 9, 30)}
}

// wild makes questions with any numbers, many of which are not valid.
func wild(d *dice) question {
	number := func() int {
		return []int{math.MinInt, -30, -1, 0, 1, 2, 5, 6, 10, 11, 60, 61, 200, 201, 500, 501, math.MaxInt - 1, math.MaxInt}[d.From(0, 17)]
	}
	q := tame(d)
	switch d.From(0, 11) {
	case 0:
		q.cloth.Nap[0] = to(number(), number())
	case 1:
		q.cloth.Nap = append(q.cloth.Nap, to(number(), number()))
	case 2:
		q.cloth.Nap = slices.Repeat(q.cloth.Nap, d.From(0, 3))
	case 3:
		q.cloth.Need = to(number(), number())
	case 4:
		q.blade.Bite = to(number(), number())
	case 5:
		q.blade.Dull = number()
	case 6:
		q.done.Plan = append(q.done.Plan, number())
	case 7:
		q.done.Plan = slices.Repeat(q.done.Plan, d.From(0, 3))
	case 8:
		q.done.Nap[0] = number()
	case 9:
		q.done.Nap = append(q.done.Nap, number())
	case 10:
		q.men = number()
		q.jobs = append(q.jobs, job(number(), number()))
	case 11:
		q.jobs = slices.Repeat(q.jobs, d.From(0, 3))
	}
	return q
}

// TestAnyArguments is for P1 and P2: whatever the arguments are, each function ends, does not panic, and answers alike.
func TestAnyArguments(t *testing.T) {
	d := dice{15}
	thrown := func() question { return wild(&d) }
	samples.AnyArguments(t, 1000, thrown, copied, ask, fmt.Sprint, api.OK, api.ErrArg, api.ErrRange, api.ErrForm, api.ErrLong, api.ErrTwice, api.ErrNone, api.ErrState)
}

// spare is a question whose lists have spare room, and one with all of this room.
func spare(q question) (with, room question) {
	with = q
	with.cloth.Nap, with.jobs = samples.Roomy(q.cloth.Nap, to(7, 7)), samples.Roomy(q.jobs, job(7, 7))
	with.done.Plan, with.done.Nap = samples.Roomy(q.done.Plan, 77), samples.Roomy(q.done.Nap, 77)
	room = with
	room.cloth.Nap, room.jobs = with.cloth.Nap[:len(q.cloth.Nap)+2], with.jobs[:len(q.jobs)+2]
	room.done.Plan, room.done.Nap = with.done.Plan[:len(q.done.Plan)+2], with.done.Nap[:len(q.done.Nap)+2]
	return with, room
}

// TestMemory is for P2, R3 and R4: no argument is changed, nor what lies behind its end, and no result shares memory with one.
func TestMemory(t *testing.T) {
	d := dice{16}
	thrown := func() (q, room question) { return spare(tame(&d)) }
	samples.OwnMemory(t, 200, thrown, ask, func(result any) {
		switch l := result.(type) {
		case []int:
			samples.Wipe(l)
		case []api.Span:
			samples.Wipe(l)
		case []api.ShearMiss:
			samples.Wipe(l)
		}
	}, fmt.Sprint)
}

// TestNil is for R3: a nil list and an empty one are answered alike.
func TestNil(t *testing.T) {
	same := func(bare, empty question) {
		t.Helper()
		if a, b := ask(bare), ask(empty); fmt.Sprint(a) != fmt.Sprint(b) {
			t.Errorf("nil is answered with %v, empty with %v", a, b)
		}
	}
	bare := question{cloth: rough(), blade: keen(), men: 2}
	empty := bare
	empty.done, empty.jobs = found(set(), set()...), jobs()
	same(bare, empty)
	bare.cloth.Nap, empty.cloth.Nap = nil, spans()
	same(bare, empty)
}

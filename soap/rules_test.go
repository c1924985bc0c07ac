package soap_test

import (
	"fmt"
	"math"
	"slices"
	"testing"

	"walkmill/api"
	"walkmill/samples"
	"walkmill/soap"
)

// question is what the functions are asked.
type question struct {
	store                 []api.SoapSort
	cloths                []api.SoapCloth
	mix                   []int
	number                int
	barrels               []api.SoapBarrel
	trials                []api.SoapTrial
	pounds                []int
	price, balance, wrong int
}

// first is the cloth that is asked for where one is.
func (q question) first() api.SoapCloth {
	if len(q.cloths) == 0 {
		return greasy()
	}
	return q.cloths[0]
}

// ask returns the results of all functions.
func ask(q question) []any {
	all := []any{soap.Check(q.store)}
	collect := func(results ...any) { all = append(all, results...) }
	span, e := soap.Grease(q.first())
	collect(span, e)
	surely, possibly, stains, e := soap.Scours(q.store, q.first(), q.mix)
	collect(surely, possibly, stains, e)
	span, e = soap.Over(q.store, q.first(), q.mix)
	collect(span, e)
	mix, price, e := soap.Cheapest(q.store, q.first())
	collect(mix, price, e)
	price, e = soap.Dear(q.store, q.first(), q.number)
	collect(price, e)
	served, e := soap.Serves(q.store, q.cloths)
	collect(served, e)
	short, can, e := soap.Short(q.barrels)
	collect(short, can, e)
	light, e := soap.Suspects(q.balance, q.trials, q.wrong)
	collect(light, e)
	more, e := soap.Trials(q.balance, q.trials)
	collect(more, e)
	shares, e := soap.Share(q.pounds, q.price)
	collect(shares, e)
	return all
}

// alike reports whether answers are the same; nil and empty lists are (R3).
func alike(a, b []any) bool { return fmt.Sprint(a) == fmt.Sprint(b) }

// copied is a question that shares no memory with another one.
func copied(q question) question {
	q.store, q.cloths, q.mix = slices.Clone(q.store), slices.Clone(q.cloths), slices.Clone(q.mix)
	q.barrels, q.trials, q.pounds = slices.Clone(q.barrels), slices.Clone(q.trials), slices.Clone(q.pounds)
	for i, t := range q.trials {
		q.trials[i] = trial(slices.Clone(t.Left), slices.Clone(t.Right), t.Lighter)
	}
	return q
}

// tame makes questions that are valid.
func tame(d *dice) question {
	z := []sizes{small, great}[d.From(0, 1)]
	q := question{store: d.store(z), balance: d.From(2, api.MaxSoapBarrels), wrong: d.From(0, 2), pounds: d.pounds(), price: d.From(0, api.MaxSoapMoney)}
	for range d.From(0, api.MaxSoapCloths) {
		q.cloths = append(q.cloths, d.cloth(z))
	}
	q.mix, q.number = d.mix(q.store), d.From(0, len(q.store)-1)
	q.barrels = d.barrels(d.From(0, api.MaxSoapBarrels), 20)
	q.trials = d.trials(d.From(0, 4), q.balance, d.From(0, q.balance-1), d.From(0, 2))
	return q
}

// wild makes questions with any numbers, many of which are not valid.
func wild(d *dice) question {
	number := func() int {
		return []int{math.MinInt, -1, 0, 1, 2, 3, 5, 12, 13, 50, 100, 200, 500, 2000, 10000, 100000, math.MaxInt - 1, math.MaxInt}[d.From(0, 17)]
	}
	span := func() api.Span { return to(number(), number()) }
	q := tame(d)
	switch d.From(0, 10) {
	case 0:
		q.store = append(q.store, sort(span(), number(), number(), number()))
	case 1:
		q.cloths = slices.Insert(q.cloths, 0, cloth(span(), span(), number()))
	case 2:
		q.mix = append(q.mix[1:], number())
	case 3:
		q.number = number()
	case 4:
		q.barrels = append(q.barrels, barrel(number(), number(), number(), span()))
	case 5:
		q.trials = append(q.trials, trial([]int{number()}, []int{number()}, api.SoapPan(number())))
	case 6:
		q.balance, q.wrong = number(), number()
	case 7:
		q.pounds = append(q.pounds, number())
	case 8:
		q.price = number()
	}
	if d.From(0, 9) == 0 {
		n := []int{0, 3, 9}[d.From(0, 2)]
		q.store, q.cloths, q.mix = slices.Repeat(q.store, n), slices.Repeat(q.cloths, n), slices.Repeat(q.mix, n)
		q.barrels, q.trials, q.pounds = slices.Repeat(q.barrels, n), slices.Repeat(q.trials, n), slices.Repeat(q.pounds, n)
	}
	return q
}

// TestAnyArguments is for P1 and P2: whatever the arguments are, each function ends, does not panic, and answers alike.
func TestAnyArguments(t *testing.T) {
	d := dice{17}
	thrown := func() question { return wild(&d) }
	samples.AnyArguments(t, 2000, thrown, copied, ask, fmt.Sprint, api.OK, api.ErrArg, api.ErrRange, api.ErrForm, api.ErrLong, api.ErrNone, api.ErrFull, api.ErrState)
}

// spare is a question whose lists have spare room, and all of this room.
func spare(q question) (with, room question) {
	with = copied(q)
	with.store = samples.Roomy(q.store, sort(to(7, 8), 9, 9, 9))
	with.cloths = samples.Roomy(q.cloths, greasy())
	with.mix, with.pounds = samples.Roomy(q.mix, 77), samples.Roomy(q.pounds, 77)
	with.barrels = samples.Roomy(q.barrels, barrel(7, 7, 7, to(7, 7)))
	for i, t := range q.trials {
		with.trials[i] = trial(samples.Roomy(t.Left, 77), samples.Roomy(t.Right, 77), t.Lighter)
	}
	with.trials = samples.Roomy(with.trials, thirds())
	room = with
	room.store, room.cloths, room.mix = with.store[:len(q.store)+2], with.cloths[:len(q.cloths)+2], with.mix[:len(q.mix)+2]
	room.barrels, room.trials, room.pounds = with.barrels[:len(q.barrels)+2], slices.Clone(with.trials[:len(q.trials)+2]), with.pounds[:len(q.pounds)+2]
	for i := range q.trials {
		left, right := with.trials[i].Left, with.trials[i].Right
		room.trials[i] = trial(left[:len(left)+2], right[:len(right)+2], with.trials[i].Lighter)
	}
	return with, room
}

// TestMemory is for P2, R3 and R4: no argument is changed, nor what lies behind its end, and no result shares memory with one.
func TestMemory(t *testing.T) {
	d := dice{18}
	thrown := func() (q, room question) { return spare(tame(&d)) }
	samples.OwnMemory(t, 100, thrown, ask, func(result any) {
		switch l := result.(type) {
		case []int:
			samples.Wipe(l)
		case [][]int:
			samples.WipeAll(l)
		}
	}, fmt.Sprint)
}

// TestOwnLists is for R4: the lists of a result share no memory with each other.
func TestOwnLists(t *testing.T) {
	cloths := slices.Repeat([]api.SoapCloth{has(20, 30)}, api.MaxSoapCloths)
	l, e := soap.Serves(slices.Repeat(store(), 2), cloths)
	if e != api.OK || len(l) != len(cloths) {
		t.Fatalf("Serves = %v, %d", l, e)
	}
	samples.OwnLists(t, l, fmt.Sprint)
	b := barrel(1, 0, 0, to(0, 0))
	surely, possibly, _ := soap.Short([]api.SoapBarrel{b, b, b})
	clear(surely[:cap(surely)])
	if !slices.Equal(possibly, []int{0, 1, 2}) {
		t.Fatalf("possibly is changed to %v", possibly)
	}
}

// TestNil is for R3: a nil list and an empty one are answered alike.
func TestNil(t *testing.T) {
	bare := question{store: store(), balance: 2, price: 1}
	empty := bare
	empty.cloths, empty.mix, empty.pounds = []api.SoapCloth{}, []int{}, []int{}
	empty.barrels, empty.trials = []api.SoapBarrel{}, []api.SoapTrial{}
	if a, b := ask(bare), ask(empty); !alike(a, b) {
		t.Errorf("nil is answered with %v, empty with %v", a, b)
	}
	bare.store, empty.store = nil, []api.SoapSort{}
	if a, b := ask(bare), ask(empty); !alike(a, b) {
		t.Errorf("nil is answered with %v, empty with %v", a, b)
	}
	bare.trials = []api.SoapTrial{trial(nil, nil, 0)}
	empty.trials = []api.SoapTrial{trial([]int{}, []int{}, 0)}
	if a, b := ask(bare), ask(empty); !alike(a, b) {
		t.Errorf("nil is answered with %v, empty with %v", a, b)
	}
}

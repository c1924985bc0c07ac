package turn_test

import (
	"fmt"
	"math"
	"reflect"
	"slices"
	"testing"

	"walkmill/api"
	"walkmill/samples"
	"walkmill/turn"
)

// question is what the functions are asked.
type question struct {
	d                          api.TurnDay
	stocks, limit, cloth, a, b int
	seen                       []int
}

// ask returns the results of all functions.
func ask(q question) []any {
	list := []any{turn.Check(q.d)}
	collect := func(results ...any) { list = append(list, results...) }
	l, e := turn.Order(q.d)
	collect(l, e)
	s, e := turn.Starts(q.d, q.stocks)
	collect(s, e)
	cloth, hours, e := turn.Waits(q.d, q.stocks)
	collect(cloth, hours, e)
	end, e := turn.Ends(q.d, q.stocks)
	collect(end, e)
	stocks, e := turn.Fewest(q.d, q.limit)
	collect(stocks, e)
	l, e = turn.Proof(q.d, q.stocks, q.limit)
	collect(l, e)
	l, e = turn.Jumped(q.d, q.seen)
	collect(l, e)
	cloth, more, e := turn.Joined(q.d, q.stocks, q.a, q.b)
	collect(cloth, more, e)
	more, e = turn.Slack(q.d, q.stocks, q.limit, q.cloth)
	collect(more, e)
	l, e = turn.Ranks(q.d, q.stocks, q.limit)
	collect(l, e)
	return list
}

// alike reports whether answers are the same; nil and empty lists are (R3).
func alike(a, b []any) bool { return fmt.Sprint(a) == fmt.Sprint(b) }

// copied is a question that shares no memory with another one.
func copied(q question) question {
	q.d, q.seen = twin(q.d), slices.Clone(q.seen)
	return q
}

// wild makes questions with any numbers, many of which are not valid.
func wild(d *dice) question {
	number := func() int {
		return []int{math.MinInt, -1, 0, 1, 2, 3, 5, 6, 20, 200, 500, math.MaxInt - 1, math.MaxInt}[d.From(0, 12)]
	}
	q := question{d: d.day(great), stocks: d.From(0, 6), limit: number(), cloth: number(), a: number(), b: d.From(0, 9)}
	q.seen = d.Mixed(len(q.d.Cloths))
	switch d.From(0, 6) {
	case 0:
		q.d.Ranks = append(q.d.Ranks, number())
	case 1:
		q.d.Cloths = append(q.d.Cloths, cloth(number(), number(), number(), number()))
	case 2:
		q.d.Ranks[0] = number()
	case 3:
		q.stocks = number()
	case 4:
		q.seen = append(q.seen, number())
	}
	if d.From(0, 5) == 0 {
		q.d.Cloths = slices.Repeat(q.d.Cloths, d.From(0, 2))
	}
	return q
}

// TestAnyArguments is for P1 and P2: whatever the arguments are, each function ends, does not panic, and answers alike.
func TestAnyArguments(t *testing.T) {
	d := dice{15}
	thrown := func() question { return wild(&d) }
	samples.AnyArguments(t, 2000, thrown, copied, ask, fmt.Sprint, api.OK, api.ErrArg, api.ErrRange, api.ErrForm, api.ErrLong, api.ErrTwice, api.ErrNone, api.ErrState)
}

// TestMemory is for P2, R3 and R4: no argument is changed, nor what lies behind its end, and no result shares memory with one.
func TestMemory(t *testing.T) {
	room := example()
	room.Cloths = append(room.Cloths, cloth(1, 7, 3, 4))
	room.Ranks = append(room.Ranks, 2)
	seen := []int{3, 2, 0, 1, 4}
	for _, limit := range []int{0, 4, 14, 500} {
		d := day(room.Ranks[:2], room.Cloths[:4]...)
		q := question{d: d, stocks: 1, limit: limit, cloth: 3, a: 1, b: 0, seen: seen[:4]}
		before, ranks, cloths, places := copied(q), slices.Clone(room.Ranks), slices.Clone(room.Cloths), slices.Clone(seen)
		first := ask(q)
		for _, result := range ask(q) { // what a caller writes into a result must be seen nowhere else
			switch l := result.(type) {
			case []api.Span:
				clear(l[:cap(l)])
			case []int:
				clear(l[:cap(l)])
			}
		}
		if !reflect.DeepEqual(q, before) || !slices.Equal(room.Ranks, ranks) || !slices.Equal(room.Cloths, cloths) || !slices.Equal(seen, places) {
			t.Fatalf("%v is changed to %v", before, q)
		}
		if second := ask(q); !alike(first, second) {
			t.Fatalf("%v, and %v", first, second)
		}
	}
	bare, empty := question{d: day([]int{0}), stocks: 1}, question{d: day([]int{0}), stocks: 1, seen: []int{}}
	bare.d.Cloths, empty.d.Cloths = nil, []api.TurnCloth{}
	if a, b := ask(bare), ask(empty); !alike(a, b) {
		t.Errorf("nil is answered with %v, empty with %v", a, b)
	}
	bare.d.Ranks, empty.d.Ranks = nil, []int{}
	if a, b := ask(bare), ask(empty); !alike(a, b) {
		t.Errorf("nil is answered with %v, empty with %v", a, b)
	}
}

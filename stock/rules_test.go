package stock_test

import (
	"fmt"
	"math"
	"reflect"
	"slices"
	"testing"

	"walkmill/api"
	"walkmill/samples"
	"walkmill/stock"
)

// question is what the functions are asked.
type question struct {
	c, other  api.StockCloth
	hour, off int
}

// ask returns the results of all functions.
func ask(q question) []any {
	list := []any{stock.Check(q.c)}
	collect := func(results ...any) { list = append(list, results...) }
	n, e := stock.Beaten(q.c, q.hour)
	collect(n, e)
	l, e := stock.At(q.c, q.hour)
	collect(l, e)
	strong, weak, e := stock.Gains(q.c)
	collect(strong, weak, e)
	surely, possibly, e := stock.Fit(q.c)
	collect(surely, possibly, e)
	hour, e := stock.Out(q.c)
	collect(hour, e)
	always, ever, e := stock.Ever(q.c)
	collect(always, ever, e)
	m, e := stock.Look(q.c, q.off)
	collect(m, e)
	turn, hour, e := stock.Turns(q.c)
	collect(turn, hour, e)
	n, e = stock.Starts(q.c)
	collect(n, e)
	n, e = stock.Both(q.c, q.other)
	collect(n, e)
	n, e = stock.Wrong(q.c)
	collect(n, e)
	return list
}

// alike reports whether answers are the same; nil and empty lists are (R3).
func alike(a, b []any) bool { return fmt.Sprint(a) == fmt.Sprint(b) }

// copied is a question that shares no memory with another one.
func copied(q question) question {
	q.c, q.other = twin(q.c), twin(q.other)
	return q
}

// wild makes questions with any numbers, many of which are not valid.
func wild(d *dice) question {
	number := func() int {
		return []int{math.MinInt, -1, 0, 1, 2, 8, 12, 36, 50, 1000, 3000, math.MaxInt - 1, math.MaxInt}[d.From(0, 12)]
	}
	span := func() api.Span { return to(number(), number()) }
	q := question{hour: number(), off: number()}
	q.c, _ = d.measured(great, api.MaxStockMeasures)
	q.other, _ = d.measured(great, api.MaxStockMeasures)
	switch d.From(0, 7) {
	case 0:
		q.c.Parts[d.From(0, len(q.c.Parts)-1)] = span()
	case 1:
		q.c.Strong, q.c.Weak = span(), span()
	case 2:
		q.c.Turn, q.c.Start = number(), number()
	case 3:
		q.c.Full, q.c.Harm = number(), number()
	case 4:
		q.c.Measures = append(q.c.Measures, measure(number(), number(), number(), number()))
	case 5:
		q.c.Measures = append(q.c.Measures, measure(0, d.From(0, 36), d.From(0, 3000), d.From(0, 10)))
	case 6:
		q.c = api.StockCloth{Strong: span(), Weak: span(), Turn: number(), Start: number(), Full: number(), Harm: number()}
	}
	if d.From(0, 3) == 0 {
		q.c.Parts = slices.Repeat(q.c.Parts, d.From(0, 2))
	}
	return q
}

// TestAnyArguments is for P1 and P2: whatever the arguments are, each function ends, does not panic, and answers alike.
func TestAnyArguments(t *testing.T) {
	d := dice{13}
	thrown := func() question { return wild(&d) }
	samples.AnyArguments(t, 2000, thrown, copied, ask, fmt.Sprint, api.OK, api.ErrArg, api.ErrRange, api.ErrForm, api.ErrLong, api.ErrTwice, api.ErrNone, api.ErrFull, api.ErrState)
}

// TestMemory is for P2, R3 and R4: no argument is changed, nor what lies behind its end, and no result shares memory with one.
func TestMemory(t *testing.T) {
	room := example(measure(0, 0, 11, 1), measure(1, 3, 21, 0), measure(0, 0, 13, 0), measure(1, 1, 1, 1))
	room.Parts = append(room.Parts, to(7, 7))
	for n := range room.Measures {
		c := room
		c.Parts, c.Measures = room.Parts[:2], room.Measures[:n]
		q := question{c, c, 5, 0}
		before, parts, measures := copied(q), slices.Clone(room.Parts), slices.Clone(room.Measures)
		first := ask(q)
		for _, result := range ask(q) { // what a caller writes into a result must be seen nowhere else
			switch l := result.(type) {
			case []api.Span:
				clear(l[:cap(l)])
			case []int:
				clear(l[:cap(l)])
			}
		}
		if !reflect.DeepEqual(q, before) || !slices.Equal(room.Parts, parts) || !slices.Equal(room.Measures, measures) {
			t.Fatalf("%v is changed to %v", before, q)
		}
		if second := ask(q); !alike(first, second) {
			t.Fatalf("%v, and %v", first, second)
		}
	}
	bare, empty := example(), example()
	bare.Measures, empty.Measures = nil, []api.StockMeasure{}
	if a, b := ask(question{c: bare, other: empty}), ask(question{c: empty, other: bare}); !alike(a, b) {
		t.Errorf("nil is answered with %v, empty with %v", a, b)
	}
	bare.Parts, empty.Parts = nil, []api.Span{}
	if a, b := ask(question{c: bare}), ask(question{c: empty}); !alike(a, b) {
		t.Errorf("nil is answered with %v, empty with %v", a, b)
	}
}

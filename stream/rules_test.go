package stream_test

import (
	"fmt"
	"math"
	"reflect"
	"slices"
	"testing"

	"walkmill/api"
	"walkmill/samples"
	"walkmill/stream"
)

// question is what the functions are asked.
type question struct {
	m     api.StreamMill
	flows []api.Span
	plan  []int
	x, y  int
}

// ask returns the results of all functions.
func ask(q question) []any {
	list := []any{stream.Check(q.m, q.flows)}
	collect := func(results ...any) { list = append(list, results...) }
	hour, surely, e := stream.Goes(q.m, q.flows, q.plan)
	collect(hour, surely, e)
	l, e := stream.Levels(q.m, q.flows, q.plan)
	collect(l, e)
	s, e := stream.Blows(q.m, q.plan)
	collect(s, e)
	plan, e := stream.Most(q.m, q.flows)
	collect(plan, e)
	a, b, e := stream.Lasts(q.m, q.flows, q.x, q.y)
	collect(a, b, e)
	a, e = stream.Window(q.m, q.flows, q.x, q.y)
	collect(a, e)
	a, e = stream.Done(q.m, q.flows, q.x)
	collect(a, e)
	a, e = stream.Upstream(q.m, q.flows, q.plan)
	collect(a, e)
	l, e = stream.Stopped(q.m, q.flows, q.plan)
	collect(l, e)
	a, b, e = stream.Rain(q.m, q.flows, q.plan)
	collect(a, b, e)
	return list
}

// alike reports whether answers are the same; nil and empty lists are (R3).
func alike(a, b []any) bool { return fmt.Sprint(a) == fmt.Sprint(b) }

// twin is a question that shares no memory with another one.
func twin(q question) question {
	q.flows, q.plan = slices.Clone(q.flows), slices.Clone(q.plan)
	return q
}

// wild makes questions with any numbers, many of which are not valid.
func wild(d *dice) question {
	number := func() int {
		return []int{math.MinInt, -1, 0, 1, 2, 8, 24, 100, 500, 5000, math.MaxInt - 1, math.MaxInt}[d.From(0, 11)]
	}
	span := func() api.Span { return to(number(), number()) }
	m, flows := d.great()
	q := question{m: m, flows: flows, plan: d.plan(m.Hammers, len(flows)), x: number(), y: number()}
	if d.From(0, 3) == 0 {
		q.m = api.StreamMill{Hammers: number(), Takes: number(), Blows: span(), Holds: number(), Now: span()}
	}
	if d.From(0, 3) == 0 {
		q.flows[d.From(0, len(flows)-1)] = span()
	}
	if d.From(0, 3) == 0 {
		q.flows = q.flows[:d.From(0, len(flows))]
	}
	if d.From(0, 3) == 0 {
		q.plan[d.From(0, len(q.plan)-1)] = number()
	}
	if d.From(0, 1) == 0 {
		q.plan = q.plan[:d.From(0, len(q.plan))]
	}
	return q
}

// TestAnyArguments is for P1 and P2: whatever the arguments are, each function ends, does not panic, and answers alike.
func TestAnyArguments(t *testing.T) {
	d := dice{13}
	thrown := func() question { return wild(&d) }
	samples.AnyArguments(t, 3000, thrown, twin, ask, fmt.Sprint)
}

// TestMemory is for P2, R3 and R4: no argument is changed, nor what lies behind its end, and no result shares memory with one.
func TestMemory(t *testing.T) {
	room := append(exampleFlows(), to(7, 7))
	for _, plan := range [][]int{{1, 1, 1, 9}, {2, 2, 1, 9}, {2, 2, 9, 9}, {0, 0, 0, 9}, {3, 3, 3, 9}} {
		for short := 2; short <= 3; short++ {
			q := question{example(), room[:3], plan[:short], 2, 1}
			before, spans, hammers := twin(q), slices.Clone(room), slices.Clone(plan)
			first := ask(q)
			for _, result := range ask(q) { // what a caller writes into a result must be seen nowhere else
				switch l := result.(type) {
				case []api.Span:
					clear(l[:cap(l)])
				case []int:
					clear(l[:cap(l)])
				}
			}
			if !reflect.DeepEqual(q, before) || !slices.Equal(room, spans) || !slices.Equal(plan, hammers) {
				t.Fatalf("%v is changed to %v, %v, %v", before, q, room, plan)
			}
			if second := ask(q); !alike(first, second) {
				t.Fatalf("%v, and %v", first, second)
			}
		}
	}
	for _, m := range []api.StreamMill{example(), {}} {
		for _, flows := range [][]api.Span{nil, exampleFlows()} {
			bare, empty := question{m: m, flows: flows}, question{m: m, flows: flows, plan: []int{}}
			if flows == nil {
				empty.flows = []api.Span{}
			}
			if a, b := ask(bare), ask(empty); !alike(a, b) {
				t.Errorf("nil is answered with %v, empty with %v", a, b)
			}
		}
	}
}

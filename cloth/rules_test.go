package cloth_test

import (
	"fmt"
	"math"
	"reflect"
	"slices"
	"testing"

	"walkmill/api"
	"walkmill/cloth"
	"walkmill/samples"
)

// question is what the functions are asked: a cloth, and what the other arguments are made of.
type question struct {
	c     api.Cloth
	x, y  int
	m     api.ClothMeasure
	yarns [][]api.Span
}

// ask returns the results of all functions.
func ask(q question) []any {
	list := []any{cloth.Check(q.c)}
	collect := func(results ...any) { list = append(list, results...) }
	var now []api.Span
	if len(q.yarns) > 0 {
		now = q.yarns[0]
	}
	s, e := cloth.At(q.c, q.x)
	collect(s, e)
	s, e = cloth.Rates(q.c)
	collect(s, e)
	a, b, e := cloth.Below(q.c, api.ClothWhat(q.x), q.y)
	collect(a, b, e)
	p, r, e := cloth.Fits(q.c, q.m)
	collect(p, r, e)
	n, e := cloth.Wrong(q.c)
	collect(n, e)
	a, b, e = cloth.Look(q.c, api.ClothWhat(q.x), q.y)
	collect(a, b, e)
	n, e = cloth.Yarns(q.c, q.yarns)
	collect(n, e)
	n, e = cloth.Hours(q.c, now)
	collect(n, e)
	p, r, e = cloth.Sewn([2]api.Cloth{q.c, q.c}, q.c, q.x)
	collect(p, r, e)
	return list
}

// twin is a question that shares no memory with another one.
func twin(q question) question {
	c := api.Cloth{Tracks: slices.Clone(q.c.Tracks), Measures: slices.Clone(q.c.Measures)}
	var yarns [][]api.Span
	for _, yarn := range q.yarns {
		yarns = append(yarns, slices.Clone(yarn))
	}
	return question{c, q.x, q.y, q.m, yarns}
}

// wild makes questions with any numbers, many of which are not valid.
func wild(d *dice) question {
	number := func() int {
		return []int{math.MinInt, -1, 0, 1, 2, 48, 100, 2000, math.MaxInt - 1, math.MaxInt}[d.From(0, 9)]
	}
	span := func() api.Span { return to(number(), number()) }
	c, _ := d.cloth(3)
	q := question{c: c, x: number(), y: number(), m: measure(api.ClothWhat(number()), number(), number(), number())}
	if d.From(0, 1) == 0 {
		q.c.Tracks[d.From(0, 2)] = api.ClothTrack{First: span(), Rate: span()}
	}
	if d.From(0, 1) == 0 {
		q.c.Tracks = q.c.Tracks[:d.From(0, 3)]
	}
	if d.From(0, 1) == 0 {
		q.c.Measures = append(q.c.Measures, q.m)
	}
	for range d.From(0, 7) {
		q.yarns = append(q.yarns, []api.Span{span(), span(), span()}[:d.From(0, 3)])
	}
	return q
}

// TestAnyArguments is for P1 and P2: whatever the arguments are, each function ends, does not panic, and answers alike.
func TestAnyArguments(t *testing.T) {
	d := dice{8}
	thrown := func() question { return wild(&d) }
	samples.AnyArguments(t, 2000, thrown, twin, ask, fmt.Sprint)
}

// TestMemory is for P2, R3 and R4: no argument is changed, nor what lies behind its end, and no result shares memory with one.
func TestMemory(t *testing.T) {
	room := example(measure(api.ClothWide, 1, 90, 0))
	room.Tracks = append(room.Tracks, track(7, 7, 7, 7))
	own := []api.Span{to(13, 20), to(50, 50), to(0, 10)}
	for n := range room.Measures {
		c := api.Cloth{Tracks: room.Tracks[:3], Measures: room.Measures[:n+1]}
		q := question{c, 1, 90, measure(api.ClothLong, 1, 985, 1), [][]api.Span{own, {to(15, 40), to(90, 100), to(0, 10)}}}
		before, tracks, measures := twin(q), slices.Clone(room.Tracks), slices.Clone(room.Measures)
		first := ask(q)
		for _, result := range ask(q) { // what a caller writes into a result must be seen nowhere else
			switch l := result.(type) {
			case []api.Span:
				clear(l)
			case []int:
				clear(l)
			}
		}
		if !reflect.DeepEqual(q, before) || !slices.Equal(room.Tracks, tracks) || !slices.Equal(room.Measures, measures) {
			t.Fatalf("%v is changed to %v", before, q)
		}
		if second := ask(q); !reflect.DeepEqual(first, second) {
			t.Fatalf("%v, and %v", first, second)
		}
	}
	bare, empty := exact(5, 5, 5), exact(5, 5, 5)
	empty.Measures = []api.ClothMeasure{}
	if a, b := ask(question{c: bare}), ask(question{c: empty, yarns: [][]api.Span{}}); !reflect.DeepEqual(a, b) {
		t.Errorf("nil is answered with %v, empty with %v", a, b)
	}
}

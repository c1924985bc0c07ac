package tenter_test

import (
	"fmt"
	"math"
	"reflect"
	"slices"
	"testing"

	"walkmill/api"
	"walkmill/samples"
	"walkmill/tenter"
)

// question is what the functions are asked.
type question struct {
	f                        api.TenterField
	cloth, long, frame, hour int
	cloths                   []int
	weather                  []api.Span
}

// ask returns the results of all functions.
func ask(q question) []any {
	list := []any{tenter.Check(q.f)}
	collect := func(results ...any) { list = append(list, results...) }
	s, e := tenter.Hangs(q.f)
	collect(s, e)
	surely, possibly, e := tenter.Stretched(q.f, q.cloth, q.long)
	collect(surely, possibly, e)
	fill, e := tenter.Fill(q.f)
	collect(fill, e)
	n, e := tenter.Bound(q.f)
	collect(n, e)
	l, e := tenter.Against(q.f)
	collect(l, e)
	l, e = tenter.Tight(q.f, q.frame, q.cloths)
	collect(l, e)
	s, e = tenter.Dry(q.f, q.weather, q.hour)
	collect(s, e)
	n, e = tenter.Need(q.f, q.weather, q.hour)
	collect(n, e)
	n, e = tenter.Late(q.f, q.weather, q.cloth, q.hour)
	collect(n, e)
	l, e = tenter.Order(q.f, q.weather, q.hour)
	collect(l, e)
	return list
}

// alike reports whether answers are the same; nil and empty lists are (R3).
func alike(a, b []any) bool { return fmt.Sprint(a) == fmt.Sprint(b) }

// copied is a question that shares no memory with another one.
func copied(q question) question {
	q.f, q.cloths, q.weather = twin(q.f), slices.Clone(q.cloths), slices.Clone(q.weather)
	return q
}

// wild makes questions with any numbers, many of which are not valid.
func wild(d *dice) question {
	number := func() int {
		return []int{math.MinInt, -1, 0, 1, 2, 3, 5, 24, 50, 100, 200, 2000, 4000, math.MaxInt - 1, math.MaxInt}[d.From(0, 14)]
	}
	span := func() api.Span { return to(number(), number()) }
	q := question{f: d.field(great), weather: d.weather(great), cloth: d.From(-1, 7), long: number(), frame: d.From(0, 2), hour: d.From(0, 3)}
	for i := range q.f.Cloths {
		if d.From(0, 1) == 0 {
			q.cloths = append(q.cloths, i)
		}
	}
	switch d.From(0, 9) {
	case 0:
		q.f.Frames = append(q.f.Frames, number())
	case 1:
		q.f.Cloths = append(q.f.Cloths, cloth(span(), span()))
	case 2:
		q.f.Gap = number()
	case 3:
		q.f.Stretch = number()
	case 4:
		q.cloths = append(q.cloths, number())
	case 5:
		q.weather = append(q.weather, span())
	case 6:
		q.hour, q.cloth, q.frame = number(), number(), number()
	}
	if d.From(0, 9) == 0 {
		q.f.Cloths = slices.Repeat(q.f.Cloths, d.From(0, 2))
		q.weather = slices.Repeat(q.weather, d.From(0, 2))
	}
	return q
}

// TestAnyArguments is for P1 and P2: whatever the arguments are, each function ends, does not panic, and answers alike.
func TestAnyArguments(t *testing.T) {
	d := dice{17}
	thrown := func() question { return wild(&d) }
	samples.AnyArguments(t, 2000, thrown, copied, ask, fmt.Sprint, api.OK, api.ErrArg, api.ErrRange, api.ErrForm, api.ErrLong, api.ErrTwice, api.ErrNone, api.ErrFull, api.ErrState)
}

// TestMemory is for P2, R3 and R4: no argument is changed, nor what lies behind its end, and no result shares memory with one.
func TestMemory(t *testing.T) {
	room := example()
	room.Cloths = append(room.Cloths, cloth(to(7, 8), to(9, 9)))
	room.Frames = append(room.Frames, 99)
	cloths, weather := []int{1, 2, 0}, append(fair(), to(7, 9))
	for _, long := range []int{425, 520, 300} {
		room.Frames[0] = long
		f := field(room.Frames[:2], room.Gap, room.Stretch, room.Cloths[:3]...)
		q := question{f: f, cloth: 1, long: 316, hour: 3, cloths: cloths[:2], weather: weather[:4]}
		before, behind := copied(q), twin(room)
		first := ask(q)
		for _, result := range ask(q) { // what a caller writes into a result must be seen nowhere else
			switch l := result.(type) {
			case []api.Span:
				clear(l[:cap(l)])
			case []int:
				clear(l[:cap(l)])
			case [][]int:
				for _, list := range l {
					clear(list[:cap(list)])
				}
				clear(l[:cap(l)])
			}
		}
		if !reflect.DeepEqual(q, before) || !reflect.DeepEqual(room, behind) || cloths[2] != 0 || weather[4] != to(7, 9) {
			t.Fatalf("%v is changed to %v", before, q)
		}
		if second := ask(q); !alike(first, second) {
			t.Fatalf("%v, and %v", first, second)
		}
	}
}

// TestOwnLists is for R4: the lists of a result share no memory with each other.
func TestOwnLists(t *testing.T) {
	samples.OwnLists(t, fill(t, long([]int{3, 3, 3}, 0, 0, 1, 1, 1, 1, 1, 1, 1)), fmt.Sprint)
}

// TestNil is for R3: a nil list and an empty one are answered alike.
func TestNil(t *testing.T) {
	bare, empty := question{f: crowd(0), weather: fair()}, question{f: crowd(0), weather: fair()}
	bare.f.Cloths, empty.f.Cloths, empty.cloths = nil, []api.TenterCloth{}, []int{}
	if a, b := ask(bare), ask(empty); !alike(a, b) {
		t.Errorf("nil is answered with %v, empty with %v", a, b)
	}
	bare.weather, empty.weather = nil, []api.Span{}
	if a, b := ask(bare), ask(empty); !alike(a, b) {
		t.Errorf("nil is answered with %v, empty with %v", a, b)
	}
	bare.f.Frames, empty.f.Frames = nil, []int{}
	if a, b := ask(bare), ask(empty); !alike(a, b) {
		t.Errorf("nil is answered with %v, empty with %v", a, b)
	}
}

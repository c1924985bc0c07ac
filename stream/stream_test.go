package stream_test

import (
	"math"
	"slices"
	"testing"

	"walkmill/api"
	"walkmill/stream"
)

// answer is a result of any function, for tests that look at errors: whether each other result is its zero value, and the error.
type answer struct {
	name  string
	empty bool
	e     api.Errno
}

// withPlan asks all functions with a plan, but Blows.
func withPlan(m api.StreamMill, flows []api.Span, plan []int) []answer {
	hour, surely, e := stream.Goes(m, flows, plan)
	list := []answer{{"Goes", hour == 0 && !surely, e}}
	l, e := stream.Levels(m, flows, plan)
	list = append(list, answer{"Levels", len(l) == 0, e})
	held, e := stream.Upstream(m, flows, plan)
	list = append(list, answer{"Upstream", held == 0, e})
	l, e = stream.Stopped(m, flows, plan)
	list = append(list, answer{"Stopped", len(l) == 0, e})
	hour, more, e := stream.Rain(m, flows, plan)
	return append(list, answer{"Rain", hour == 0 && more == 0, e})
}

// answers asks all functions, but Check and Blows, with other arguments that are not valid.
func answers(m api.StreamMill, flows []api.Span) []answer {
	list := withPlan(m, flows, []int{-1})
	plan, e := stream.Most(m, flows)
	list = append(list, answer{"Most", len(plan) == 0, e})
	a, b, e := stream.Lasts(m, flows, -1, -1)
	list = append(list, answer{"Lasts", a == 0 && b == 0, e})
	a, e = stream.Window(m, flows, -1, -1)
	list = append(list, answer{"Window", a == 0, e})
	a, e = stream.Done(m, flows, -1)
	return append(list, answer{"Done", a == 0, e})
}

// check fails unless all functions have the error of a mill and a stream first.
func check(t *testing.T, m api.StreamMill, flows []api.Span, want api.Errno) {
	t.Helper()
	if e := stream.Check(m, flows); e != want {
		t.Errorf("%v, %v: Check = %d, not %d", m, flows, e, want)
	}
	if want == api.OK {
		return
	}
	for _, a := range answers(m, flows) {
		if a.e != want || !a.empty {
			t.Errorf("%v, %v: %s = %d, empty %v, not %d", m, flows, a.name, a.e, a.empty, want)
		}
	}
}

// TestCheckMill is for P2.1: each limit of a mill can be reached, and is exceeded by one.
func TestCheckMill(t *testing.T) {
	set := func(change func(m *api.StreamMill)) api.StreamMill {
		m := example()
		change(&m)
		return m
	}
	hammers := func(n int) api.StreamMill { return set(func(m *api.StreamMill) { m.Hammers = n }) }
	takes := func(n int) api.StreamMill { return set(func(m *api.StreamMill) { m.Takes = n }) }
	blows := func(s api.Span) api.StreamMill { return set(func(m *api.StreamMill) { m.Blows = s }) }
	pond := func(holds int, now api.Span) api.StreamMill {
		return set(func(m *api.StreamMill) { m.Holds, m.Now = holds, now })
	}
	for _, m := range []api.StreamMill{
		hammers(1), hammers(8), takes(0), takes(100),
		blows(to(0, 0)), blows(to(0, 5000)), blows(to(5000, 5000)),
		pond(0, to(0, 0)), pond(500, to(0, 500)), pond(500, to(500, 500)), pond(7, to(7, 7)),
	} {
		check(t, m, exampleFlows(), api.OK)
		if _, e := stream.Blows(m, []int{1}); e != api.OK {
			t.Errorf("%v: Blows = %d", m, e)
		}
	}
	for _, m := range []api.StreamMill{
		{}, hammers(0), hammers(9), hammers(math.MinInt), hammers(math.MaxInt), takes(-1), takes(101),
		blows(to(-1, 0)), blows(to(0, 5001)), blows(to(4, 3)), blows(to(math.MinInt, math.MaxInt)),
		pond(-1, to(0, 0)), pond(-1, to(-1, -1)), pond(501, to(0, 0)), pond(7, to(0, 8)), pond(7, to(8, 8)), pond(7, to(-1, 0)), pond(7, to(5, 4)),
	} {
		check(t, m, exampleFlows(), api.ErrArg)
		if s, e := stream.Blows(m, nil); s != to(0, 0) || e != api.ErrArg {
			t.Errorf("%v: Blows = %v, %d", m, s, e)
		}
	}
}

// TestCheckStream is for P2.1: each limit of a stream can be reached, and is exceeded by one.
func TestCheckStream(t *testing.T) {
	m := example()
	check(t, m, none(24), api.OK)
	check(t, m, none(1), api.OK)
	check(t, m, none(25), api.ErrLong)
	check(t, m, nil, api.ErrNone)
	check(t, m, []api.Span{}, api.ErrNone)
	check(t, m, []api.Span{to(0, 500)}, api.OK)
	check(t, m, []api.Span{to(500, 500)}, api.OK)
	for _, s := range []api.Span{to(-1, 0), to(0, 501), to(501, 501), to(3, 2), to(math.MinInt, math.MaxInt), to(math.MaxInt, math.MinInt)} {
		check(t, m, []api.Span{to(0, 0), s}, api.ErrRange)
	}
}

// TestCheckOrder is for P2.1 and R1: of several errors the first one that is named.
func TestCheckOrder(t *testing.T) {
	long := slices.Repeat([]api.Span{to(-1, 0)}, 25)
	check(t, api.StreamMill{}, long, api.ErrArg)
	check(t, api.StreamMill{}, nil, api.ErrArg)
	check(t, api.StreamMill{}, long[:1], api.ErrArg)
	check(t, example(), long, api.ErrLong)
	check(t, example(), long[:24], api.ErrRange)
	for _, a := range answers(example(), none(3)) { // behind the errors of the mill and the stream
		want := api.ErrForm
		switch a.name {
		case "Most":
			want = api.OK
		case "Lasts", "Window", "Done":
			want = api.ErrRange
		}
		if a.e != want || a.empty == (a.name == "Most") {
			t.Errorf("%s = %d, empty %v, not %d", a.name, a.e, a.empty, want)
		}
	}
}

// TestPlans is for P2.1: a plan has as many integers as the stream has hours, no more hammers than there are, and its error is the next one.
func TestPlans(t *testing.T) {
	m, flows := example(), exampleFlows()
	for _, plan := range [][]int{nil, {}, {0, 0, 0, 0}, {0, 0, 4}, {0, -1, 0}, {math.MinInt, 0, 0}, {math.MaxInt, 0, 0}} {
		for _, a := range withPlan(m, flows, plan) {
			if a.e != api.ErrForm || !a.empty {
				t.Errorf("%v: %s = %d, empty %v", plan, a.name, a.e, a.empty)
			}
		}
	}
	for _, a := range withPlan(m, flows, []int{0, 0}) { // too short for all but Stopped
		if want := api.ErrForm; a.e != want && a.name != "Stopped" || a.e == want && a.name == "Stopped" {
			t.Errorf("%s = %d", a.name, a.e)
		}
	}
	for _, a := range withPlan(m, flows, []int{3, 3, 3}) {
		want := map[string]api.Errno{"Goes": api.OK, "Levels": api.ErrState, "Upstream": api.ErrState, "Stopped": api.ErrState, "Rain": api.OK}[a.name]
		if a.e != want {
			t.Errorf("%s = %d, not %d", a.name, a.e, want)
		}
	}
}

// TestGoes is for P2.2.
func TestGoes(t *testing.T) {
	two := plain(2, 10, 50, 0)
	for i, x := range []struct {
		m      api.StreamMill
		flows  []api.Span
		plan   []int
		hour   int
		surely bool
		e      api.Errno
	}{
		{two, just(10, 10), []int{1, 1}, 0, false, api.ErrNone}, // the last drop can be used
		{two, just(9, 10), []int{1, 1}, 0, true, api.OK},
		{two, []api.Span{to(9, 10), to(10, 10)}, []int{1, 1}, 0, false, api.OK},
		{two, []api.Span{to(9, 10), to(0, 0)}, []int{1, 1}, 0, false, api.OK}, // surely too little in the end, not by the first hour that has too little
		{two, []api.Span{to(10, 19), to(0, 0)}, []int{1, 1}, 1, true, api.OK},
		{two, []api.Span{to(10, 20), to(0, 0)}, []int{1, 1}, 1, false, api.OK},
		{two, just(0, 0, 0), []int{0, 0, 1}, 2, true, api.OK},
		{plain(2, 10, 15, 0), just(20, 20), []int{0, 2}, 1, true, api.OK}, // the rest went over the weir
		{plain(2, 10, 20, 0), just(15, 5), []int{0, 2}, 0, false, api.ErrNone},
		{plain(1, 10, 9, 9), just(500), []int{1}, 0, true, api.OK}, // the pond is too small for a hammer
		{plain(8, 0, 0, 0), none(2), []int{8, 8}, 0, false, api.ErrNone},
	} {
		if hour, surely, e := stream.Goes(x.m, x.flows, x.plan); hour != x.hour || surely != x.surely || e != x.e {
			t.Errorf("%d: Goes = %d, %v, %d", i, hour, surely, e)
		}
	}
}

// TestLevels is for P2.3.
func TestLevels(t *testing.T) {
	for i, x := range []struct {
		m     api.StreamMill
		flows []api.Span
		plan  []int
		l     []api.Span
		e     api.Errno
	}{
		{plain(2, 10, 50, 50), just(0, 500), []int{2, 2}, just(30, 30), api.OK},
		{plain(2, 10, 50, 0), []api.Span{to(20, 60), to(0, 10)}, []int{1, 1}, []api.Span{to(10, 40), to(0, 40)}, api.OK},
		{plain(1, 100, 500, 500), none(1), []int{0}, just(500), api.OK},
		{plain(8, 0, 0, 0), just(500), []int{8}, just(0), api.OK},
		{plain(2, 10, 50, 0), []api.Span{to(19, 60), to(0, 10)}, []int{1, 1}, nil, api.ErrState},
	} {
		if l, e := stream.Levels(x.m, x.flows, x.plan); !slices.Equal(l, x.l) || e != x.e {
			t.Errorf("%d: Levels = %v, %d", i, l, e)
		}
	}
}

// TestBlows is for P2.4, and for the form of its plan (P2.1).
func TestBlows(t *testing.T) {
	m := plain(8, 0, 0, 0)
	m.Blows = to(4999, 5000)
	for i, x := range []struct {
		plan []int
		s    api.Span
		e    api.Errno
	}{
		{[]int{0}, to(0, 0), api.OK},
		{[]int{1}, to(4999, 5000), api.OK},
		{[]int{1, 0, 2}, to(14997, 15000), api.OK},
		{steady(24, 8, 0), to(192*4999, 192*5000), api.OK},
		{steady(25, 0, 0), to(0, 0), api.ErrForm},
		{nil, to(0, 0), api.ErrForm},
		{[]int{}, to(0, 0), api.ErrForm},
		{[]int{9}, to(0, 0), api.ErrForm},
		{[]int{1, -1}, to(0, 0), api.ErrForm},
	} {
		if s, e := stream.Blows(m, x.plan); s != x.s || e != x.e {
			t.Errorf("%d: Blows = %v, %d", i, s, e)
		}
	}
}

// TestMost is for P2.5.
func TestMost(t *testing.T) {
	for i, x := range []struct {
		m     api.StreamMill
		flows []api.Span
		plan  []int
	}{
		{plain(2, 10, 100, 0), just(10, 10, 10), []int{0, 1, 2}},     // later is smaller
		{plain(1, 10, 100, 0), just(10, 10, 10), []int{1, 1, 1}},     // no hour can be made up for
		{plain(2, 10, 10, 0), just(10, 10, 10), []int{1, 1, 1}},      // what waits goes over the weir
		{plain(2, 10, 15, 0), just(15, 5, 0), []int{1, 0, 1}},        // some of it does
		{plain(2, 10, 15, 0), just(19, 19, 19), []int{1, 1, 1}},      // more than the pond holds
		{plain(2, 10, 50, 0), []api.Span{to(9, 90)}, []int{0}},       // not surely one
		{plain(8, 0, 0, 0), none(3), []int{8, 8, 8}},                 // hammers that take nothing
		{plain(8, 100, 99, 99), just(500, 500), []int{0, 0}},         // a pond that is too small for one
		{plain(8, 100, 500, 500), just(500, 500, 0), []int{5, 0, 5}}, // a pond that is too small for all
		{plain(8, 1, 500, 500), none(24), steady(24, 8, 0)},          // water for all
	} {
		if plan := most(t, x.m, x.flows); !slices.Equal(plan, x.plan) {
			t.Errorf("%d: Most = %v", i, plan)
		}
	}
}

// TestLasts is for P2.6.
func TestLasts(t *testing.T) {
	m, flows := example(), exampleFlows()
	for i, x := range []struct {
		hammers, from    int
		surely, possibly int
		e                api.Errno
	}{
		{1, 0, 3, 3, api.OK},
		{3, 0, 1, 1, api.OK},
		{3, 1, 1, 2, api.OK},
		{2, 1, 2, 2, api.OK},
		{1, 2, 1, 1, api.OK},
		{0, 0, 0, 0, api.ErrRange},
		{-1, 0, 0, 0, api.ErrRange},
		{4, 0, 0, 0, api.ErrRange},
		{1, -1, 0, 0, api.ErrRange},
		{1, 3, 0, 0, api.ErrRange},
		{math.MaxInt, math.MinInt, 0, 0, api.ErrRange},
	} {
		if a, b, e := stream.Lasts(m, flows, x.hammers, x.from); a != x.surely || b != x.possibly || e != x.e {
			t.Errorf("%d: Lasts = %d, %d, %d", i, a, b, e)
		}
	}
	if a, b := lasts(t, plain(1, 10, 50, 0), []api.Span{to(0, 10), to(10, 10)}, 1, 0); a != 0 || b != 2 {
		t.Errorf("Lasts = %d, %d", a, b)
	}
	if a, b := lasts(t, plain(8, 0, 0, 0), none(24), 8, 0); a != 24 || b != 24 {
		t.Errorf("Lasts without water to take = %d, %d", a, b)
	}
}

// TestWindow is for P2.7.
func TestWindow(t *testing.T) {
	m, flows := example(), exampleFlows()
	for i, x := range []struct {
		m              api.StreamMill
		flows          []api.Span
		hammers, hours int
		from           int
		e              api.Errno
	}{
		{m, flows, 1, 3, 0, api.OK},
		{m, flows, 3, 1, 0, api.OK},
		{m, flows, 2, 2, 1, api.OK},
		{m, flows, 3, 2, 0, api.ErrNone},
		{m, flows, 1, 4, 0, api.ErrNone}, // no more hours than the stream has
		{m, flows, 1, 24, 0, api.ErrNone},
		{m, flows, 1, 25, 0, api.ErrRange},
		{m, flows, 1, 0, 0, api.ErrRange},
		{m, flows, 1, math.MinInt, 0, api.ErrRange},
		{m, flows, 0, 1, 0, api.ErrRange},
		{m, flows, 4, 1, 0, api.ErrRange},
		{m, flows, 4, 24, 0, api.ErrRange},
		{plain(1, 10, 50, 0), just(0, 0, 9, 1), 1, 1, 3, api.OK},
		{plain(8, 0, 0, 0), none(24), 8, 24, 0, api.OK},
	} {
		if from, e := stream.Window(x.m, x.flows, x.hammers, x.hours); from != x.from || e != x.e {
			t.Errorf("%d: Window = %d, %d", i, from, e)
		}
	}
}

// TestDone is for P2.8.
func TestDone(t *testing.T) {
	m, flows := example(), exampleFlows()
	for i, x := range []struct {
		m     api.StreamMill
		flows []api.Span
		work  int
		hours int
		e     api.Errno
	}{
		{m, flows, 0, 0, api.OK},
		{m, flows, 1, 1, api.OK},
		{m, flows, 5, 0, api.ErrNone},
		{m, flows, 200, 0, api.ErrNone},
		{m, flows, 201, 0, api.ErrRange},
		{m, flows, -1, 0, api.ErrRange},
		{m, flows, math.MinInt, 0, api.ErrRange},
		{plain(2, 10, 50, 0), none(3), 0, 0, api.OK},
		{plain(2, 10, 50, 0), none(3), 1, 0, api.ErrNone},
		{plain(2, 10, 50, 0), just(0, 0, 15, 5), 1, 3, api.OK},
		{plain(2, 10, 50, 0), just(0, 0, 15, 5), 2, 4, api.OK},
		{plain(8, 0, 0, 0), none(24), 192, 24, api.OK},
		{plain(8, 0, 0, 0), none(24), 185, 24, api.OK},
		{plain(8, 0, 0, 0), none(24), 184, 23, api.OK},
		{plain(8, 0, 0, 0), none(24), 193, 0, api.ErrNone},
	} {
		if hours, e := stream.Done(x.m, x.flows, x.work); hours != x.hours || e != x.e {
			t.Errorf("%d: Done = %d, %d", i, hours, e)
		}
	}
}

// TestUpstream is for P2.9.
func TestUpstream(t *testing.T) {
	for i, x := range []struct {
		m     api.StreamMill
		flows []api.Span
		plan  []int
		held  int
		e     api.Errno
	}{
		{example(), exampleFlows(), []int{0, 0, 0}, 500, api.OK},
		{plain(1, 10, 50, 20), just(7, 3), []int{1, 1}, 500, api.OK}, // the pond has it all
		{plain(1, 10, 50, 19), just(7, 3), []int{1, 1}, 6, api.OK},
		{plain(1, 10, 50, 10), just(7, 3), []int{1, 1}, 0, api.OK}, // nothing is left to hold
		{plain(1, 10, 50, 10), just(7, 2), []int{1, 1}, 0, api.ErrState},
		{plain(5, 100, 500, 0), just(500), []int{5}, 0, api.OK},
		{plain(5, 0, 0, 0), just(500), []int{5}, 500, api.OK},
		{plain(1, 1, 500, 0), just(500), []int{1}, 499, api.OK},
		{plain(1, 10, 10, 0), just(500, 500), []int{1, 1}, 490, api.OK}, // all that goes over the weir
		{plain(1, 10, 50, 0), []api.Span{to(15, 30), to(12, 40)}, []int{1, 1}, 3, api.OK},
	} {
		if held, e := stream.Upstream(x.m, x.flows, x.plan); held != x.held || e != x.e {
			t.Errorf("%d: Upstream = %d, %d", i, held, e)
		}
	}
}

// TestStopped is for P2.10.
func TestStopped(t *testing.T) {
	two := api.StreamMill{Hammers: 2, Takes: 10, Holds: 20, Now: to(0, 5)}
	flows := []api.Span{to(0, 30), to(0, 30), to(0, 30)}
	for i, x := range []struct {
		m     api.StreamMill
		flows []api.Span
		plan  []int
		l     []api.Span
		e     api.Errno
	}{
		{two, flows, []int{1}, []api.Span{to(0, 9)}, api.OK},
		{two, flows, []int{1, 1}, []api.Span{to(5, 19), to(0, 9)}, api.OK},
		{two, flows, []int{2, 0, 1}, []api.Span{to(15, 30), to(0, 9), to(0, 9)}, api.OK}, // what goes over the weir is not known
		{two, flows, []int{1, 1, 2}, []api.Span{to(5, 30), to(0, 30), to(0, 19)}, api.OK},
		{two, flows, []int{0}, nil, api.ErrState}, // no water is wanted
		{two, flows, []int{1, 1, 0}, nil, api.ErrState},
		{two, just(10, 10, 10), []int{1, 1, 1}, nil, api.ErrState}, // there always was enough
		{two, just(4, 0, 0), []int{1, 1, 1}, nil, api.ErrState},    // the first hour had too little already
		{two, just(5, 0, 0), []int{1, 1}, just(5, 0), api.OK},
		{two, flows, []int{0, 0, 0, 1}, nil, api.ErrForm},
		{two, flows, []int{}, nil, api.ErrForm},
		{two, flows, []int{3}, nil, api.ErrForm},
		{two, flows, []int{-1}, nil, api.ErrForm},
		{plain(8, 100, 500, 0), slices.Repeat([]api.Span{to(0, 500)}, 24), append(steady(23, 5, 0), 6), append(slices.Repeat(just(500), 23), to(0, 500)), api.OK},
	} {
		if l, e := stream.Stopped(x.m, x.flows, x.plan); !slices.Equal(l, x.l) || e != x.e {
			t.Errorf("%d: Stopped = %v, %d", i, l, e)
		}
	}
}

// TestRain is for P2.11.
func TestRain(t *testing.T) {
	for i, x := range []struct {
		m     api.StreamMill
		flows []api.Span
		plan  []int
		hour  int
		more  int
		e     api.Errno
	}{
		{plain(1, 10, 50, 0), just(5, 5), []int{0, 1}, 0, 0, api.ErrTwice},
		{plain(1, 10, 50, 0), just(4, 5), []int{0, 1}, 0, 1, api.OK}, // as much in both: the first one
		{plain(1, 10, 50, 0), just(5, 4), []int{1, 0}, 0, 5, api.OK}, // later is too late
		{plain(2, 10, 20, 0), just(15, 0), []int{0, 2}, 0, 5, api.OK},
		{plain(2, 10, 20, 0), just(30, 15, 0), []int{1, 0, 2}, 0, 0, api.ErrTwice},
		{plain(2, 10, 20, 0), just(30, 0, 0), []int{1, 0, 2}, 1, 10, api.OK}, // in the first hour it goes over the weir
		{plain(2, 10, 20, 0), just(0, 0), []int{2, 2}, 0, 0, api.ErrNone},    // in no one hour it is enough
		{plain(5, 100, 500, 0), just(0), []int{5}, 0, 500, api.OK},
		{plain(6, 100, 500, 0), just(0), []int{6}, 0, 0, api.ErrNone},
		{plain(5, 100, 500, 0), []api.Span{to(300, 500)}, []int{5}, 0, 200, api.OK}, // more than MaxStreamFlow can come then
		{plain(5, 100, 500, 0), just(500, 0, 499), []int{5, 0, 5}, 1, 1, api.OK},
	} {
		if hour, more, e := stream.Rain(x.m, x.flows, x.plan); hour != x.hour || more != x.more || e != x.e {
			t.Errorf("%d: Rain = %d, %d, %d", i, hour, more, e)
		}
	}
}

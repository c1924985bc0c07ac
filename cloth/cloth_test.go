package cloth_test

import (
	"math"
	"slices"
	"testing"

	"walkmill/api"
	"walkmill/cloth"
)

// answer is a result of any function, for tests that look at errors: whether each other result is its zero value, and the error.
type answer struct {
	name  string
	empty bool
	e     api.Errno
}

// answers asks all functions, but Check, about a cloth, with other arguments that are not valid.
func answers(c api.Cloth) []answer {
	l, e := cloth.At(c, -1)
	list := []answer{{"At", len(l) == 0, e}}
	l, e = cloth.Rates(c)
	list = append(list, answer{"Rates", len(l) == 0, e})
	a, b, e := cloth.Below(c, -1, -1)
	list = append(list, answer{"Below", a == 0 && b == 0, e})
	p, q, e := cloth.Fits(c, measure(-1, -1, -1, -1))
	list = append(list, answer{"Fits", !p && !q, e})
	a, b, e = cloth.Look(c, -1, -1)
	list = append(list, answer{"Look", a == 0 && b == 0, e})
	n, e := cloth.Hours(c, nil)
	list = append(list, answer{"Hours", len(n) == 0, e})
	for place := range 3 {
		three := []api.Cloth{exact(1, 1, 1), exact(1, 1, 1), exact(1, 1, 1)}
		three[place] = c
		p, q, e = cloth.Sewn([2]api.Cloth{three[0], three[1]}, three[2], -1)
		list = append(list, answer{"Sewn", !p && !q, e})
	}
	n, e = cloth.Wrong(c)
	list = append(list, answer{"Wrong", len(n) == 0, e})
	n, e = cloth.Yarns(c, make([][]api.Span, api.MaxClothYarns+1))
	return append(list, answer{"Yarns", len(n) == 0, e})
}

// checked is a cloth, and its error.
type checked struct {
	c api.Cloth
	e api.Errno
}

// check fails unless all functions have the errors of Check first.
func check(t *testing.T, list ...checked) {
	t.Helper()
	for i, x := range list {
		if e := cloth.Check(x.c); e != x.e {
			t.Errorf("%d: Check = %d, not %d", i, e, x.e)
		}
		if x.e == api.OK {
			continue
		}
		for _, a := range answers(x.c) {
			if a.e != x.e || !a.empty {
				t.Errorf("%d: %s = %d, empty %v, not %d", i, a.name, a.e, a.empty, x.e)
			}
		}
	}
}

// first and rate are cloths with such a span, and many is one with so many measurings.
func first(low, high int) api.Cloth {
	return withTrack(exact(100, 100, 100), api.ClothWide, api.ClothTrack{First: to(low, high)})
}

func rate(low, high int) api.Cloth {
	return withTrack(exact(100, 100, 100), api.ClothWide, track(100, 120, low, high))
}

func many(n int) api.Cloth {
	return with(exact(100, 100, 100), slices.Repeat([]api.ClothMeasure{measure(0, 48, 100, 0)}, n)...)
}

// TestCheckTracks is for P1.1: each limit of a track can be reached, and is exceeded by one.
func TestCheckTracks(t *testing.T) {
	check(t,
		checked{example(), api.OK},
		checked{api.Cloth{}, api.ErrForm},
		checked{api.Cloth{Tracks: exact(1, 1, 1).Tracks[:2]}, api.ErrForm},
		checked{api.Cloth{Tracks: append(exact(1, 1, 1).Tracks, track(1, 1, 0, 0))}, api.ErrForm},
		checked{first(1, 1), api.OK},
		checked{first(1, 61), api.OK},
		checked{first(1, 62), api.ErrForm},
		checked{first(0, 1), api.ErrForm},
		checked{first(-5, -5), api.ErrForm},
		checked{first(2000, 2000), api.OK},
		checked{first(1940, 2000), api.OK},
		checked{first(2000, 2001), api.ErrForm},
		checked{first(101, 100), api.ErrForm},
		checked{first(math.MinInt, math.MaxInt), api.ErrForm},
		checked{first(math.MaxInt, math.MinInt), api.ErrForm},
		checked{rate(0, 0), api.OK},
		checked{rate(0, 30), api.OK},
		checked{rate(0, 31), api.ErrForm},
		checked{rate(-1, 0), api.ErrForm},
		checked{rate(70, 100), api.OK},
		checked{rate(100, 101), api.ErrForm},
		checked{rate(20, 19), api.ErrForm},
		checked{rate(math.MinInt, math.MaxInt), api.ErrForm},
	)
}

// TestCheckMeasures is for P1.1: each limit of measurings can be reached, and is exceeded by one.
func TestCheckMeasures(t *testing.T) {
	one := func(m api.ClothMeasure) api.Cloth { return with(exact(100, 100, 100), m) }
	check(t,
		checked{many(8), api.OK},
		checked{many(9), api.ErrLong},
		checked{one(measure(api.ClothLong, 0, 100, 0)), api.OK},
		checked{one(measure(api.ClothHeavy, 48, 100, 20)), api.OK},
		checked{one(measure(-1, 0, 100, 0)), api.ErrArg},
		checked{one(measure(3, 0, 100, 0)), api.ErrArg},
		checked{one(measure(math.MinInt, 0, 100, 0)), api.ErrArg},
		checked{one(measure(0, -1, 100, 0)), api.ErrArg},
		checked{one(measure(0, 49, 100, 0)), api.ErrArg},
		checked{one(measure(0, 0, -1, 20)), api.ErrArg},
		checked{one(measure(0, 0, 2001, 20)), api.ErrArg},
		checked{one(measure(0, 0, 100, -1)), api.ErrArg},
		checked{one(measure(0, 0, 100, 21)), api.ErrArg},
		checked{one(measure(0, math.MaxInt, math.MinInt, math.MaxInt)), api.ErrArg},
	)
}

// TestCheckOrder is for P1.1 and R1: of several errors the first one that is named.
func TestCheckOrder(t *testing.T) {
	wrong := measure(-1, 0, 0, 0)
	check(t,
		checked{with(first(0, 0), many(9).Measures...), api.ErrForm},
		checked{with(first(0, 0), wrong), api.ErrForm},
		checked{with(many(8), wrong), api.ErrLong},
		checked{with(many(7), wrong), api.ErrArg},
	)
}

// TestReadings is for P1.1: the least and the greatest reading are valid, also where they contradict the cloth.
func TestReadings(t *testing.T) {
	for _, reading := range []int{0, api.MaxClothSize} {
		if e := cloth.Check(with(exact(5, 5, 5), measure(0, 0, reading, 0))); e != api.OK {
			t.Errorf("Check with the reading %d = %d", reading, e)
		}
	}
}

// TestNoTruth is for P1.1: a cloth without a truth is valid; all but Wrong and Yarns have an error before those of the other arguments.
func TestNoTruth(t *testing.T) {
	for what := range api.ClothHeavy + 1 {
		c := with(exact(100, 100, 100), measure(what, 0, 101, 0))
		if e := cloth.Check(c); e != api.OK {
			t.Errorf("Check = %d", e)
		}
		for _, a := range answers(c) {
			want := api.ErrState
			switch a.name {
			case "Wrong":
				want = api.OK
			case "Yarns":
				want = api.ErrFull
			}
			if a.e != want || a.empty == (a.name == "Wrong") {
				t.Errorf("%s = %d, empty %v, not %d", a.name, a.e, a.empty, want)
			}
		}
	}
}

// TestAt is for P1.2.
func TestAt(t *testing.T) {
	falls := withTrack(exact(1000, 7, 1), api.ClothLong, track(1000, 1000, 100, 100))
	falls.Tracks[api.ClothHeavy].Rate = to(100, 100)
	for i, x := range []struct {
		c    api.Cloth
		hour int
		l    []api.Span
		e    api.Errno
	}{
		{falls, 0, []api.Span{to(1000, 1000), to(7, 7), to(1, 1)}, api.OK},
		{falls, 3, []api.Span{to(729, 729), to(7, 7), to(1, 1)}, api.OK},
		{falls, 4, []api.Span{to(657, 657), to(7, 7), to(1, 1)}, api.OK}, // 729 less 72.9 is rounded in the end of each hour
		{example(measure(api.ClothLong, 0, 1007, 0)), 1, []api.Span{to(987, 987), to(95, 95), to(502, 513)}, api.OK},
		{falls, -1, nil, api.ErrRange},
		{falls, 49, nil, api.ErrRange},
		{falls, math.MaxInt, nil, api.ErrRange},
	} {
		if l, e := cloth.At(x.c, x.hour); !slices.Equal(l, x.l) || e != x.e {
			t.Errorf("%d: At = %v, %d", i, l, e)
		}
	}
	if l := at(t, falls, api.MaxClothHours); l[1] != to(7, 7) {
		t.Errorf("At the last hour = %v", l)
	}
}

// TestRates is for P1.3.
func TestRates(t *testing.T) {
	for i, x := range []struct {
		c api.Cloth
		l []api.Span
	}{
		{exact(5, 5, 5), []api.Span{to(0, 0), to(0, 0), to(0, 0)}},
		{api.Cloth{Tracks: example().Tracks}, []api.Span{to(10, 20), to(50, 50), to(0, 10)}},
		{example(measure(api.ClothLong, 0, 1000, 0)), []api.Span{to(13, 17), to(50, 50), to(0, 10)}},
		{example(measure(api.ClothHeavy, 2, 497, 0)), []api.Span{to(13, 20), to(50, 50), to(10, 10)}},
	} {
		if l := rates(t, x.c); !slices.Equal(l, x.l) {
			t.Errorf("%d: Rates = %v", i, l)
		}
	}
}

// TestBelow is for P1.4.
func TestBelow(t *testing.T) {
	last := withTrack(exact(1000, 1000, 1000), api.ClothWide, track(1000, 1000, 1, 1)) // one less in each hour, after the first
	for i, x := range []struct {
		c                api.Cloth
		what             api.ClothWhat
		limit            int
		surely, possibly int
		e                api.Errno
	}{
		{example(), api.ClothWide, 100, 0, 0, api.OK},
		{example(), api.ClothWide, 99, 1, 1, api.OK},
		{example(), api.ClothLong, 986, 2, 1, api.OK},
		{example(), api.ClothHeavy, 506, 49, 1, api.OK},
		{example(), api.ClothHeavy, 0, 49, 49, api.OK},
		{example(), api.ClothLong, 2000, 0, 0, api.OK},
		{last, api.ClothWide, 999, 1, 1, api.OK},
		{last, api.ClothWide, 998, 49, 49, api.OK}, // 999 less 0.999 is 999
		{example(), 3, -1, 0, 0, api.ErrNone},
		{example(), -1, 2001, 0, 0, api.ErrNone},
		{example(), math.MinInt, 0, 0, 0, api.ErrNone},
		{example(), api.ClothLong, -1, 0, 0, api.ErrRange},
		{example(), api.ClothHeavy, 2001, 0, 0, api.ErrRange},
	} {
		if a, b, e := cloth.Below(x.c, x.what, x.limit); a != x.surely || b != x.possibly || e != x.e {
			t.Errorf("%d: Below = %d, %d, %d", i, a, b, e)
		}
	}
	slow := withTrack(exact(1, 1, 1), api.ClothLong, track(1000, 1000, 100, 100))
	size := at(t, slow, api.MaxClothHours)[0].Low
	if before := at(t, slow, api.MaxClothHours-1)[0].Low; before == size {
		t.Fatal("the cloth does not shrink in the last hour")
	}
	if a, b := below(t, slow, api.ClothLong, size); a != api.MaxClothHours || b != api.MaxClothHours {
		t.Errorf("Below at the last hour = %d, %d", a, b)
	}
}

// TestFits is for P1.5.
func TestFits(t *testing.T) {
	gap := withTrack(exact(9, 9, 9), api.ClothHeavy, track(100, 101, 0, 0))
	for i, x := range []struct {
		c                api.Cloth
		m                api.ClothMeasure
		surely, possibly bool
		e                api.Errno
	}{
		{gap, measure(api.ClothHeavy, 48, 100, 0), false, true, api.OK},
		{gap, measure(api.ClothHeavy, 48, 102, 1), false, true, api.OK},
		{gap, measure(api.ClothHeavy, 48, 102, 2), true, true, api.OK},
		{gap, measure(api.ClothHeavy, 0, 99, 0), false, false, api.OK},
		{gap, measure(api.ClothHeavy, 0, 99, 1), false, true, api.OK},
		{gap, measure(api.ClothHeavy, 0, 99, 2), true, true, api.OK},
		{gap, measure(api.ClothLong, 0, 0, 8), false, false, api.OK},
		{gap, measure(api.ClothLong, 0, 0, 9), true, true, api.OK},
		{gap, measure(3, 0, 0, 0), false, false, api.ErrArg},
		{gap, measure(0, 49, 0, 0), false, false, api.ErrArg},
		{gap, measure(0, 0, 2001, 0), false, false, api.ErrArg},
		{gap, measure(0, 0, 0, 21), false, false, api.ErrArg},
	} {
		if a, b, e := cloth.Fits(x.c, x.m); a != x.surely || b != x.possibly || e != x.e {
			t.Errorf("%d: Fits = %v, %v, %d", i, a, b, e)
		}
	}
	full := with(gap, slices.Repeat([]api.ClothMeasure{measure(0, 0, 9, 0)}, api.MaxClothMeasures)...)
	if a, b, e := cloth.Fits(full, measure(0, 0, 9, 0)); !a || !b || e != api.OK {
		t.Errorf("Fits with as many measurings as there may be = %v, %v, %d", a, b, e)
	}
}

// TestWrong is for P1.6.
func TestWrong(t *testing.T) {
	for i, x := range []struct {
		c api.Cloth
		l []int
		e api.Errno
	}{
		{example(), nil, api.ErrTwice},
		{exact(5, 5, 5), nil, api.ErrTwice},
		{example(measure(api.ClothLong, 1, 990, 2)), []int{0}, api.OK},                                       // 0 or 2
		{example(measure(api.ClothLong, 1, 990, 2), measure(api.ClothLong, 1, 985, 0)), []int{2}, api.OK},    // not 0 and 3
		{example(measure(api.ClothWide, 0, 99, 0), measure(api.ClothHeavy, 0, 519, 0)), []int{1, 2}, api.OK}, // 1 or 3, and 2
		{example(measure(api.ClothHeavy, 0, 519, 0), measure(api.ClothLong, 0, 1, 0), measure(api.ClothLong, 0, 1010, 0)), []int{0, 1, 3}, api.OK},
		{with(exact(5, 5, 5), slices.Repeat([]api.ClothMeasure{measure(api.ClothWide, 0, 4, 0)}, 8)...), []int{0, 1, 2, 3, 4, 5, 6, 7}, api.OK},
	} {
		if l, e := cloth.Wrong(x.c); !slices.Equal(l, x.l) || e != x.e {
			t.Errorf("%d: Wrong = %v, %d", i, l, e)
		}
	}
}

// TestLook is for P1.7.
func TestLook(t *testing.T) {
	three := withTrack(exact(9, 9, 9), api.ClothLong, track(100, 102, 0, 0))
	later := withTrack(exact(9, 9, 9), api.ClothWide, track(1000, 1000, 0, 1))
	for i, x := range []struct {
		c          api.Cloth
		what       api.ClothWhat
		off        int
		hour, left int
		e          api.Errno
	}{
		{three, api.ClothLong, 0, 0, 1, api.OK},
		{three, api.ClothLong, 1, 0, 0, api.ErrTwice}, // all of the truths are within 1 of 101
		{withTrack(three, api.ClothLong, track(100, 103, 0, 0)), api.ClothLong, 1, 0, 3, api.OK},
		{withTrack(three, api.ClothLong, track(100, 141, 0, 0)), api.ClothLong, 20, 0, 41, api.OK},
		{withTrack(three, api.ClothLong, track(100, 140, 0, 0)), api.ClothLong, 20, 0, 0, api.ErrTwice},
		{three, api.ClothWide, 0, 0, 0, api.ErrTwice}, // one truth
		{later, api.ClothWide, 0, 1, 1, api.OK},
		{withTrack(later, api.ClothWide, track(1000, 1001, 0, 1)), api.ClothWide, 0, 0, 2, api.OK},
		{three, 3, -1, 0, 0, api.ErrNone},
		{three, -1, 21, 0, 0, api.ErrNone},
		{three, api.ClothLong, -1, 0, 0, api.ErrRange},
		{three, api.ClothLong, 21, 0, 0, api.ErrRange},
	} {
		if hour, left, e := cloth.Look(x.c, x.what, x.off); hour != x.hour || left != x.left || e != x.e {
			t.Errorf("%d: Look = %d, %d, %d", i, hour, left, e)
		}
	}
}

// TestYarns is for P1.8.
func TestYarns(t *testing.T) {
	own := []api.Span{to(13, 20), to(50, 50), to(0, 10)}
	wide := func(s api.Span) [][]api.Span { return [][]api.Span{{to(13, 20), s, to(0, 10)}} }
	measured := example(measure(api.ClothWide, 1, 95, 0))
	for i, x := range []struct {
		c     api.Cloth
		yarns [][]api.Span
		l     []int
		e     api.Errno
	}{
		{measured, nil, nil, api.OK},
		{measured, wide(to(40, 49)), nil, api.OK},
		{measured, wide(to(40, 50)), []int{0}, api.OK},
		{measured, wide(to(59, 89)), []int{0}, api.OK},
		{measured, wide(to(60, 90)), nil, api.OK},
		{measured, wide(to(0, 30)), nil, api.OK},
		{measured, wide(to(0, 31)), nil, api.ErrRange},
		{measured, wide(to(70, 100)), nil, api.OK},
		{measured, wide(to(70, 101)), nil, api.ErrRange},
		{measured, wide(to(101, 101)), nil, api.ErrRange},
		{measured, wide(to(-1, 0)), nil, api.ErrRange},
		{measured, wide(to(51, 50)), nil, api.ErrRange},
		{measured, wide(to(math.MinInt, math.MaxInt)), nil, api.ErrRange},
		{measured, [][]api.Span{own, own[:2]}, nil, api.ErrRange},
		{measured, [][]api.Span{append(slices.Clone(own), to(0, 0))}, nil, api.ErrRange},
		{measured, [][]api.Span{nil}, nil, api.ErrRange},
		{measured, [][]api.Span{own, wide(to(0, 0))[0], own}, []int{0, 2}, api.OK},
		{measured, slices.Repeat([][]api.Span{own}, 6), []int{0, 1, 2, 3, 4, 5}, api.OK},
		{measured, slices.Repeat([][]api.Span{nil}, 7), nil, api.ErrFull},
		{example(measure(api.ClothWide, 1, 90, 0)), wide(to(100, 100)), []int{0}, api.OK}, // with its own rates it has no truth
		{example(measure(api.ClothWide, 0, 90, 0)), wide(to(100, 100)), nil, api.OK},
	} {
		if l, e := cloth.Yarns(x.c, x.yarns); !slices.Equal(l, x.l) || e != x.e {
			t.Errorf("%d: Yarns = %v, %d", i, l, e)
		}
	}
}

// TestHours is for P1.9.
func TestHours(t *testing.T) {
	any := to(0, api.MaxClothSize)
	var every []int
	for hour := range api.MaxClothHours + 1 {
		every = append(every, hour)
	}
	gap := withTrack(exact(9, 9, 9), api.ClothLong, track(2000, 2000, 10, 11)) // 1980 or 1978 after an hour
	for i, x := range []struct {
		c   api.Cloth
		now []api.Span
		l   []int
		e   api.Errno
	}{
		{exact(1, 1, 2000), []api.Span{any, any, any}, every, api.OK},
		{example(), []api.Span{any, to(95, 100), any}, []int{0, 1}, api.OK},
		{example(), []api.Span{any, to(96, 99), any}, nil, api.ErrNone},
		{example(), []api.Span{to(1007, 1007), any, any}, []int{0}, api.OK},
		{example(), []api.Span{to(1008, 2000), any, any}, nil, api.ErrNone},
		{example(), []api.Span{to(987, 987), any, to(502, 502)}, []int{1}, api.OK},
		{example(), []api.Span{any, to(95, 95), to(0, 501)}, nil, api.ErrNone}, // each one is so, but at other hours
		{gap, []api.Span{to(1978, 1980), any, any}, []int{1}, api.OK},
		{gap, []api.Span{to(1978, 1978), any, any}, []int{1}, api.OK},
		{gap, []api.Span{to(1980, 1980), any, any}, []int{1}, api.OK},
		{gap, []api.Span{to(1979, 1979), any, any}, nil, api.ErrNone}, // it lies in At, but no truth has it
		{example(), nil, nil, api.ErrRange},
		{example(), []api.Span{any, any}, nil, api.ErrRange},
		{example(), []api.Span{any, any, any, any}, nil, api.ErrRange},
		{example(), []api.Span{any, any, to(0, 2001)}, nil, api.ErrRange},
		{example(), []api.Span{any, to(-1, 5), any}, nil, api.ErrRange},
		{example(), []api.Span{to(5, 4), any, any}, nil, api.ErrRange},
		{example(), []api.Span{to(math.MinInt, math.MaxInt), any, any}, nil, api.ErrRange},
	} {
		if l, e := cloth.Hours(x.c, x.now); !slices.Equal(l, x.l) || e != x.e {
			t.Errorf("%d: Hours = %v, %d", i, l, e)
		}
	}
}

// TestSewn is for P1.10.
func TestSewn(t *testing.T) {
	a, b := exact(400, 60, 300), exact(600, 60, 600)
	whole := func(long, wide, heavy api.Span) api.Cloth {
		return api.Cloth{Tracks: []api.ClothTrack{{First: long}, {First: wide}, {First: heavy}}}
	}
	shrinks := withTrack(a, api.ClothLong, track(400, 400, 10, 20))
	for i, x := range []struct {
		a, b, whole      api.Cloth
		seam             int
		surely, possibly bool
		e                api.Errno
	}{
		{a, b, exact(1000, 60, 900), 0, true, true, api.OK},
		{a, b, exact(980, 60, 900), 20, true, true, api.OK},
		{b, a, exact(980, 60, 900), 20, true, true, api.OK},
		{shrinks, b, exact(980, 60, 900), 20, true, true, api.OK}, // they are compared at the hour 0
		{a, b, exact(981, 60, 900), 20, false, false, api.OK},
		{a, b, exact(980, 60, 880), 20, false, false, api.OK}, // a seam takes no weight
		{a, b, exact(980, 61, 900), 20, false, false, api.OK},
		{a, exact(600, 61, 600), exact(980, 60, 900), 20, false, false, api.OK},
		{exact(400, 61, 300), b, exact(980, 60, 900), 20, false, false, api.OK},
		{exact(400, 61, 300), exact(600, 61, 600), exact(980, 60, 900), 20, false, false, api.OK},
		{a, b, whole(to(980, 981), to(60, 60), to(900, 900)), 20, false, true, api.OK},
		{a, b, whole(to(980, 980), to(59, 60), to(900, 900)), 20, false, true, api.OK},
		{a, b, whole(to(980, 980), to(60, 60), to(890, 900)), 20, false, true, api.OK},
		{a, b, whole(to(980, 980), to(60, 60), to(890, 899)), 20, false, false, api.OK},
		{a, whole(to(600, 603), to(60, 60), to(600, 600)), exact(983, 60, 900), 20, false, true, api.OK},
		{a, whole(to(600, 602), to(60, 60), to(600, 600)), exact(983, 60, 900), 20, false, false, api.OK},
		{whole(to(400, 400), to(55, 60), to(300, 300)), whole(to(600, 600), to(60, 65), to(600, 600)), exact(980, 60, 900), 20, false, true, api.OK},
		{whole(to(400, 400), to(55, 60), to(300, 300)), whole(to(600, 600), to(61, 65), to(600, 600)), whole(to(980, 980), to(55, 65), to(900, 900)), 20, false, false, api.OK},
		{exact(5, 60, 5), exact(5, 60, 5), exact(1, 60, 10), 20, false, false, api.OK}, // less than nothing would be left
		{a, b, exact(980, 60, 900), 21, false, false, api.ErrRange},
		{a, b, exact(980, 60, 900), -1, false, false, api.ErrRange},
	} {
		if p, q, e := cloth.Sewn([2]api.Cloth{x.a, x.b}, x.whole, x.seam); p != x.surely || q != x.possibly || e != x.e {
			t.Errorf("%d: Sewn = %v, %v, %d", i, p, q, e)
		}
	}
}

// TestSewnErrors is for P1.10: the errors of the first part, of the second part, and of the whole, with ErrState each.
func TestSewnErrors(t *testing.T) {
	form, state := api.Cloth{}, with(exact(5, 5, 5), measure(0, 0, 6, 0))
	long := with(exact(5, 5, 5), make([]api.ClothMeasure, api.MaxClothMeasures+1)...)
	for i, x := range []struct {
		a, b, whole api.Cloth
		e           api.Errno
	}{
		{state, form, long, api.ErrState},
		{form, state, long, api.ErrForm},
		{exact(5, 5, 5), state, form, api.ErrState},
		{exact(5, 5, 5), long, state, api.ErrLong},
		{exact(5, 5, 5), exact(5, 5, 5), state, api.ErrState},
		{exact(5, 5, 5), exact(5, 5, 5), long, api.ErrLong},
		{exact(5, 5, 5), exact(5, 5, 5), exact(5, 5, 5), api.ErrRange},
	} {
		if p, q, e := cloth.Sewn([2]api.Cloth{x.a, x.b}, x.whole, -1); p || q || e != x.e {
			t.Errorf("%d: Sewn = %v, %v, %d", i, p, q, e)
		}
	}
}

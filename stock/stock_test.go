package stock_test

import (
	"math"
	"slices"
	"testing"

	"walkmill/api"
	"walkmill/stock"
)

// answer is a result of any function, for tests that look at errors: whether each other result is its zero value, and the error.
type answer struct {
	name  string
	empty bool
	e     api.Errno
}

// answers asks all functions, but Check, about a cloth, with other arguments that are not valid.
func answers(c api.StockCloth) []answer {
	n, e := stock.Beaten(c, -1)
	list := []answer{{"Beaten", len(n) == 0, e}}
	l, e := stock.At(c, -1)
	list = append(list, answer{"At", len(l) == 0, e})
	strong, weak, e := stock.Gains(c)
	list = append(list, answer{"Gains", strong == to(0, 0) && weak == to(0, 0), e})
	a, b, e := stock.Fit(c)
	list = append(list, answer{"Fit", len(a) == 0 && len(b) == 0, e})
	hour, e := stock.Out(c)
	list = append(list, answer{"Out", hour == 0, e})
	p, q, e := stock.Ever(c)
	list = append(list, answer{"Ever", !p && !q, e})
	m, e := stock.Look(c, -1)
	list = append(list, answer{"Look", m == measure(0, 0, 0, 0), e})
	turn, hour, e := stock.Turns(c)
	list = append(list, answer{"Turns", turn == 0 && hour == 0, e})
	n, e = stock.Starts(c)
	list = append(list, answer{"Starts", len(n) == 0, e})
	n, e = stock.Both(c, api.StockCloth{})
	list = append(list, answer{"Both first", len(n) == 0, e})
	n, e = stock.Both(example(), c)
	list = append(list, answer{"Both second", len(n) == 0, e})
	n, e = stock.Wrong(c)
	return append(list, answer{"Wrong", len(n) == 0, e})
}

// check fails unless all functions have the error of Check of some cloths first.
func check(t *testing.T, want api.Errno, list ...api.StockCloth) {
	t.Helper()
	for _, c := range list {
		if e := stock.Check(c); e != want {
			t.Errorf("%v: Check = %d, not %d", c, e, want)
		}
		if want == api.OK {
			continue
		}
		for _, a := range answers(c) {
			if a.e != want || !a.empty {
				t.Errorf("%v: %s = %d, empty %v, not %d", c, a.name, a.e, a.empty, want)
			}
		}
	}
}

// parts and strong are the example with other spans, and weak is one with a great Strong.
func parts(list ...api.Span) api.StockCloth {
	return set(example(), func(c *api.StockCloth) { c.Parts = list })
}

func strong(low, high int) api.StockCloth {
	return set(example(), func(c *api.StockCloth) { c.Strong = to(low, high) })
}

func weak(low, high int) api.StockCloth {
	return set(strong(50, 50), func(c *api.StockCloth) { c.Weak = to(low, high) })
}

// hammers is the example with both gains.
func hammers(strong, weak api.Span) api.StockCloth {
	return set(example(), func(c *api.StockCloth) { c.Strong, c.Weak = strong, weak })
}

// TestCheckParts is for P3.1: each limit of parts can be reached, and is exceeded by one.
func TestCheckParts(t *testing.T) {
	one := to(5, 5)
	check(t, api.OK,
		parts(one), parts(one, one, one), parts(to(0, 0)), parts(to(0, 8)), parts(one, to(992, 1000)), parts(to(1000, 1000)))
	check(t, api.ErrForm,
		api.StockCloth{}, parts(), parts(one, one, one, one), parts(to(0, 9)), parts(to(991, 1000)), parts(to(-1, 0)),
		parts(to(1000, 1001)), parts(to(1001, 1001)), parts(one, to(6, 5)), parts(one, one, to(-5, -5)),
		parts(to(math.MinInt, math.MaxInt)), parts(to(math.MaxInt, math.MinInt)), parts(to(math.MinInt, math.MinInt)))
}

// TestCheckGains is for P3.1: each limit of what the hammers give can be reached, and is exceeded by one.
func TestCheckGains(t *testing.T) {
	check(t, api.OK,
		hammers(to(0, 0), to(0, 0)), hammers(to(0, 8), to(0, 0)), hammers(to(50, 50), to(50, 50)),
		strong(2, 10), strong(42, 50), weak(0, 8), weak(42, 50), hammers(to(7, 9), to(5, 7)))
	check(t, api.ErrRange,
		strong(2, 11), strong(41, 50), strong(50, 51), strong(51, 51), strong(7, 6), strong(1, 6), strong(-1, 0),
		weak(0, 9), weak(41, 50), weak(-1, 0), weak(3, 2), weak(-2, -2), hammers(to(6, 9), to(5, 7)), hammers(to(0, 0), to(0, 1)),
		strong(math.MinInt, math.MaxInt), strong(math.MaxInt, math.MinInt), weak(math.MinInt, math.MaxInt), weak(math.MinInt, math.MinInt))
}

// TestCheckBeating is for P3.1: each limit of the other numbers can be reached, and is exceeded by one.
func TestCheckBeating(t *testing.T) {
	c := example()
	check(t, api.OK,
		turned(c, 1), turned(c, 12), begun(c, 1), begun(parts(to(5, 5), to(5, 5), to(5, 5)), 2),
		within(c, 0, 0), within(c, 0, 3000), within(c, 3000, 3000), within(c, 44, 44))
	check(t, api.ErrRange,
		turned(c, 0), turned(c, 13), turned(c, -1), turned(c, math.MinInt), turned(c, math.MaxInt),
		begun(c, 2), begun(c, -1), begun(parts(to(5, 5)), 1), begun(c, math.MinInt), begun(c, math.MaxInt),
		within(c, -1, 44), within(c, -1, -1), within(c, 45, 44), within(c, 0, 3001), within(c, 3001, 3001),
		within(c, math.MinInt, math.MaxInt), within(c, math.MaxInt, math.MinInt))
}

// TestCheckMeasures is for P3.1: each limit of measurings can be reached, and is exceeded by one. One that contradicts the cloth is valid.
func TestCheckMeasures(t *testing.T) {
	c := example()
	many := slices.Repeat([]api.StockMeasure{measure(0, 0, 11, 1)}, 7)
	check(t, api.OK,
		with(c, many[:6]...), with(c, measure(1, 36, 100, 10)), with(c, measure(0, 0, 0, 0)), with(c, measure(0, 0, 3000, 0)))
	check(t, api.ErrLong, with(c, many...))
	for _, m := range []api.StockMeasure{
		measure(-1, 0, 11, 1), measure(2, 0, 11, 1), measure(0, -1, 11, 1), measure(0, 37, 11, 1), measure(0, 0, -1, 10), measure(0, 0, 3001, 10),
		measure(0, 0, 11, -1), measure(0, 0, 11, 11), measure(math.MinInt, 0, 11, 1), measure(0, math.MaxInt, math.MinInt, math.MaxInt),
	} {
		check(t, api.ErrArg, with(c, m), with(c, many[0], m))
	}
}

// TestCheckOrder is for P3.1 and R1: of several errors the first one that is named.
func TestCheckOrder(t *testing.T) {
	bad := slices.Repeat([]api.StockMeasure{measure(-1, 0, 0, 0)}, 7)
	check(t, api.ErrForm, with(turned(parts(to(9, 8)), 0), bad...), with(begun(parts(), 5), bad[0]))
	check(t, api.ErrRange, with(turned(example(), 0), bad...), with(within(example(), 2, 1), bad[0]))
	check(t, api.ErrLong, with(example(), bad...))
	check(t, api.ErrArg, with(example(), bad[:6]...))
}

// TestNoTruth is for P3.1: a cloth without a truth is valid; all but Beaten, Starts and Wrong have an error before those of the other arguments.
func TestNoTruth(t *testing.T) {
	for _, m := range []api.StockMeasure{measure(0, 0, 13, 0), measure(1, 0, 9, 0), measure(1, 3, 22, 0), measure(0, 36, 0, 10)} {
		c := example(m)
		if e := stock.Check(c); e != api.OK {
			t.Errorf("%v: Check = %d", c, e)
		}
		for _, a := range answers(c) {
			want := api.ErrState
			switch a.name {
			case "Beaten":
				want = api.ErrNone
			case "Starts", "Wrong":
				want = api.OK
			}
			if a.e != want || a.empty != (a.name != "Wrong") {
				t.Errorf("%v: %s = %d, empty %v, not %d", c, a.name, a.e, a.empty, want)
			}
		}
	}
}

// TestBeaten is for P3.2.
func TestBeaten(t *testing.T) {
	three := plain(1, 0, 0, 100, 5, 5, 5)
	for i, x := range []struct {
		c    api.StockCloth
		hour int
		l    []int
		e    api.Errno
	}{
		{three, 0, []int{0, 0, 0}, api.OK},
		{three, 1, []int{1, 0, 0}, api.OK},
		{three, 4, []int{2, 1, 1}, api.OK},
		{three, 36, []int{12, 12, 12}, api.OK},
		{begun(three, 2), 1, []int{0, 0, 1}, api.OK},
		{begun(three, 2), 2, []int{1, 0, 1}, api.OK}, // after the last part the part 0
		{turned(begun(three, 1), 5), 17, []int{5, 7, 5}, api.OK},
		{turned(three, 12), 35, []int{12, 12, 11}, api.OK},
		{turned(example(), 12), 36, []int{24, 12}, api.OK},
		{plain(1, 0, 0, 9, 5), 36, []int{36}, api.OK},
		{example(measure(0, 0, 13, 0)), 5, []int{3, 2}, api.OK}, // it has no truth
		{three, -1, nil, api.ErrNone},
		{three, 37, nil, api.ErrNone},
		{three, math.MinInt, nil, api.ErrNone},
		{three, math.MaxInt, nil, api.ErrNone},
	} {
		if l, e := stock.Beaten(x.c, x.hour); !slices.Equal(l, x.l) || e != x.e {
			t.Errorf("%d: Beaten = %v, %d", i, l, e)
		}
	}
}

// TestAt is for P3.3.
func TestAt(t *testing.T) {
	most := set(plain(0, 50, 0, 0, 1000, 1000, 1000), func(c *api.StockCloth) { c.Strong = to(50, 50) })
	for i, x := range []struct {
		c    api.StockCloth
		hour int
		l    []api.Span
		e    api.Errno
	}{
		{example(), 0, []api.Span{to(10, 12), to(10, 10)}, api.OK},
		{example(), 2, []api.Span{to(22, 26), to(14, 14)}, api.OK},
		{begun(example(), 1), 2, []api.Span{to(14, 16), to(22, 24)}, api.OK},
		{plain(3, 1, 0, 9, 5, 7), 36, []api.Span{to(77, 77), to(79, 79)}, api.OK},
		{most, 36, []api.Span{to(2800, 2800), to(2800, 2800), to(2800, 2800)}, api.OK},
		{example(measure(0, 2, 26, 0)), 0, []api.Span{to(12, 12), to(10, 10)}, api.OK},
		{example(measure(0, 2, 26, 0)), 4, []api.Span{to(30, 30), to(28, 28)}, api.OK}, // 12 and 7
		{example(measure(0, 2, 24, 0)), 0, []api.Span{to(10, 12), to(10, 10)}, api.OK}, // 12 and 6, or 10 and 7
		{example(measure(0, 2, 24, 0)), 6, []api.Span{to(40, 42), to(30, 32)}, api.OK},
		{example(measure(0, 2, 21, 1)), 0, []api.Span{to(10, 10), to(10, 10)}, api.OK},
		{example(), -1, nil, api.ErrNone},
		{example(), 37, nil, api.ErrNone},
		{example(), math.MaxInt, nil, api.ErrNone},
	} {
		if l, e := stock.At(x.c, x.hour); !slices.Equal(l, x.l) || e != x.e {
			t.Errorf("%d: At = %v, %d", i, l, e)
		}
	}
}

// TestGains is for P3.4.
func TestGains(t *testing.T) {
	wide := hammers(to(10, 18), to(2, 10))
	for i, x := range []struct {
		c            api.StockCloth
		strong, weak api.Span
	}{
		{example(), to(6, 7), to(2, 2)},
		{hammers(to(0, 0), to(0, 0)), to(0, 0), to(0, 0)},
		{hammers(to(50, 50), to(42, 50)), to(50, 50), to(42, 50)},
		{wide, to(10, 18), to(2, 10)},
		{with(wide, measure(1, 2, 14, 0)), to(10, 18), to(2, 2)},
		{with(wide, measure(1, 2, 24, 2)), to(10, 18), to(6, 8)},
		{with(wide, measure(1, 3, 43, 0)), to(13, 17), to(8, 10)}, // 17 and 8, 15 and 9, 13 and 10
		{with(wide, measure(0, 1, 21, 1)), to(10, 12), to(2, 10)},
		{with(wide, measure(0, 2, 44, 0)), to(16, 17), to(2, 10)},
		{with(wide, measure(0, 2, 44, 0), measure(1, 3, 40, 0)), to(16, 16), to(7, 7)}, // with 17 the other one gained 13 in 2 hours
	} {
		if strong, weak := gains(t, x.c); strong != x.strong || weak != x.weak {
			t.Errorf("%d: Gains = %v, %v", i, strong, weak)
		}
	}
}

// TestFit is for P3.5, and for P3.6.
func TestFit(t *testing.T) {
	c := plain(3, 1, 10, 20, 4, 6) // after 2 hours 8 and 10, after 3 hours 11 and 11, after 7 hours 19 and 19, after 8 hours 20 and 22
	unsure := set(c, func(c *api.StockCloth) { c.Parts[0] = to(3, 5) })
	for i, x := range []struct {
		c                api.StockCloth
		surely, possibly []int
	}{
		{c, from(3, 7), from(3, 7)},
		{within(c, 11, 11), []int{3}, []int{3}},
		{within(c, 11, 20), from(3, 7), from(3, 7)},
		{within(c, 12, 20), from(4, 7), from(4, 7)},
		{within(c, 12, 18), from(4, 6), from(4, 6)},
		{within(c, 0, 3), nil, nil},
		{within(c, 0, 3000), from(0, 36), from(0, 36)},
		{within(c, 0, 6), []int{0}, []int{0}},
		{within(c, 76, 3000), []int{36}, []int{36}},
		{within(c, 77, 3000), nil, nil},
		{unsure, from(3, 7), from(3, 7)},
		{within(unsure, 12, 19), []int{5, 6}, from(4, 7)},
		{within(example(), 32, 44), nil, from(6, 8)},
		{within(example(measure(0, 1, 19, 0)), 31, 44), []int{6}, []int{6}}, // 12 and 7
		{plain(0, 0, 5, 5, 5), from(0, 36), from(0, 36)},
		{plain(0, 0, 5, 5, 5, 6), nil, nil},
	} {
		surely, possibly := fit(t, x.c)
		if !slices.Equal(surely, x.surely) || !slices.Equal(possibly, x.possibly) {
			t.Errorf("%d: Fit = %v, %v", i, surely, possibly)
		}
		hour, e := stock.Out(x.c)
		if len(x.surely) == 0 && (hour != 0 || e != api.ErrNone) || len(x.surely) > 0 && (hour != x.surely[0] || e != api.OK) {
			t.Errorf("%d: Out = %d, %d", i, hour, e)
		}
	}
}

// halves is a cloth that is 5 or 6 thick, and gains 10 in an hour.
func halves(full, harm int) api.StockCloth {
	return set(plain(10, 0, full, harm, 5), func(c *api.StockCloth) { c.Parts[0].High = 6 })
}

// slow is a cloth that gains 1 or 2 in an hour.
func slow(full, harm int) api.StockCloth {
	return set(plain(1, 0, full, harm, 0), func(c *api.StockCloth) { c.Strong.High = 2 })
}

// TestEver is for P3.7.
func TestEver(t *testing.T) {
	for i, x := range []struct {
		c                api.StockCloth
		surely, possibly bool
	}{
		{example(), true, true},
		{within(example(), 31, 44), true, true},
		{within(example(), 33, 44), false, true}, // 11 and 7 is fit at no hour
		{within(example(), 33, 40), false, true}, // 10 and 6 is after 7 hours
		{within(example(), 33, 39), false, false},
		{within(example(measure(0, 1, 17, 0)), 33, 45), true, true},
		{within(example(measure(0, 1, 17, 0)), 33, 41), false, true}, // 11 and 6, not 10 and 7
		{within(example(measure(0, 1, 17, 0)), 33, 40), false, false},
		{halves(20, 25), false, true},
		{halves(16, 25), true, true}, // 5 after 2 hours, 6 after one
		{halves(5, 5), false, true},
		{halves(5, 6), true, true},
		{slow(10, 10), true, true},
		{slow(11, 11), false, true},
		{plain(1, 0, 36, 36, 0), true, true},
		{plain(1, 0, 37, 37, 0), false, false},
	} {
		if a, b, e := stock.Ever(x.c); a != x.surely || b != x.possibly || e != api.OK {
			t.Errorf("%d: Ever = %v, %v, %d", i, a, b, e)
		}
	}
}

// TestLook is for P3.8.
func TestLook(t *testing.T) {
	behind := set(halves(16, 25), func(c *api.StockCloth) {
		c.Parts = []api.Span{to(16, 16), to(5, 6), to(16, 16)}
		c.Start = 1
		c.Turn = 5
	})
	for i, x := range []struct {
		c   api.StockCloth
		off int
		m   api.StockMeasure
		e   api.Errno
	}{
		{halves(16, 25), 0, measure(0, 0, 0, 0), api.OK},
		{halves(16, 25), 1, measure(0, 0, 0, 0), api.ErrNone}, // 5 and 6 can be read in both truths, and at no hour they differ by more
		{halves(20, 25), 0, measure(0, 0, 0, 0), api.ErrNone}, // if it is 6 there is no hour
		{behind, 0, measure(1, 0, 0, 0), api.OK},
		{slow(10, 10), 0, measure(0, 1, 0, 0), api.OK},
		{slow(10, 10), 1, measure(0, 3, 0, 1), api.OK},
		{slow(10, 10), 2, measure(0, 5, 0, 2), api.OK},              // in the hour of the measuring it can be taken out
		{slow(10, 10), 3, measure(0, 0, 0, 0), api.ErrNone},         // in hour 7 it would tell, but then it is too late if the gain is 2
		{slow(36, 70), 10, measure(0, 21, 0, 10), api.OK},           // after 36 hours if the gain is 1
		{slow(37, 70), 10, measure(0, 0, 0, 0), api.ErrNone},        // if the gain is 1 there is no hour
		{within(example(), 31, 44), 1, measure(0, 6, 0, 1), api.OK}, // 12 and 6, and 10 and 7, which 41 can be, are fit after 7 hours
		{within(example(), 31, 44), 2, measure(0, 0, 0, 0), api.ErrNone},
		{within(example(measure(0, 0, 11, 0)), 31, 44), 0, measure(0, 1, 0, 0), api.OK},
		{within(example(measure(0, 1, 19, 0)), 31, 44), 0, measure(0, 0, 0, 0), api.ErrTwice},
		{example(), 0, measure(0, 0, 0, 0), api.ErrTwice},
		{plain(1, 0, 36, 36, 0), 10, measure(0, 0, 0, 0), api.ErrTwice},
		{plain(1, 0, 37, 37, 0), 10, measure(0, 0, 0, 0), api.ErrNone},
		{example(), -1, measure(0, 0, 0, 0), api.ErrRange},
		{example(), 11, measure(0, 0, 0, 0), api.ErrRange},
		{slow(37, 70), math.MinInt, measure(0, 0, 0, 0), api.ErrRange},
		{slow(37, 70), math.MaxInt, measure(0, 0, 0, 0), api.ErrRange},
	} {
		if m, e := stock.Look(x.c, x.off); m != x.m || e != x.e {
			t.Errorf("%d: Look = %v, %d", i, m, e)
		}
	}
}

// TestLookWithManyMeasures is for P3.8: a cloth with as many measurings as there may be can be measured once more.
func TestLookWithManyMeasures(t *testing.T) {
	c := with(halves(16, 25), slices.Repeat([]api.StockMeasure{measure(0, 1, 15, 1)}, api.MaxStockMeasures)...)
	if m, e := stock.Look(c, 0); m != measure(0, 0, 0, 0) || e != api.OK {
		t.Errorf("Look = %v, %d", m, e)
	}
}

// TestTurns is for P3.9.
func TestTurns(t *testing.T) {
	last := plain(2, 0, 24, 24, 0, 24) // the part 0 must be beaten for 12 hours, the other one not at all
	thin := begun(plain(3, 1, 10, 30, 10, 4), 1)
	for i, x := range []struct {
		c          api.StockCloth
		turn, hour int
		e          api.Errno
	}{
		{turned(example(), 12), 1, 6, api.OK},
		{last, 12, 12, api.OK},
		{begun(last, 1), 0, 0, api.ErrNone},
		{thin, 2, 2, api.OK}, // with the Turn 1 it is full after 3 hours
		{turned(thin, 7), 2, 2, api.OK},
		{begun(thin, 0), 1, 4, api.OK},
		{plain(1, 0, 36, 36, 0), 1, 36, api.OK}, // with each Turn
		{plain(1, 0, 37, 37, 0), 0, 0, api.ErrNone},
		{plain(1, 0, 0, 5, 5, 5), 1, 0, api.OK},
		{halves(16, 25), 0, 0, api.ErrNone},
		{example(measure(0, 0, 11, 1)), 0, 0, api.ErrFull},
		{with(halves(16, 25), measure(0, 0, 5, 1)), 0, 0, api.ErrFull},
	} {
		if turn, hour, e := stock.Turns(x.c); turn != x.turn || hour != x.hour || e != x.e {
			t.Errorf("%d: Turns = %d, %d, %d", i, turn, hour, e)
		}
	}
}

// TestStarts is for P3.10.
func TestStarts(t *testing.T) {
	three := plain(3, 1, 0, 9, 5, 5, 5)
	for i, x := range []struct {
		c api.StockCloth
		l []int
	}{
		{three, []int{0, 1, 2}},
		{plain(3, 1, 0, 9, 5), []int{0}},
		{with(three, measure(1, 1, 6, 0)), []int{0, 2}},
		{with(three, measure(1, 1, 8, 0)), []int{1}},
		{begun(with(three, measure(1, 1, 8, 0)), 2), []int{1}}, // so it has no truth
		{with(three, measure(1, 1, 7, 1)), []int{0, 1, 2}},
		{with(three, measure(1, 1, 7, 0)), nil},
		{with(three, measure(0, 0, 6, 0)), nil},
		{with(three, measure(0, 2, 9, 0)), []int{0, 2}},
		{with(three, measure(0, 2, 9, 0), measure(2, 2, 9, 0)), []int{2}},
		{turned(with(three, measure(0, 2, 9, 0)), 2), nil},
	} {
		if l, e := stock.Starts(x.c); !slices.Equal(l, x.l) || e != api.OK {
			t.Errorf("%d: Starts = %v, %d", i, l, e)
		}
	}
}

// TestBoth is for P3.11.
func TestBoth(t *testing.T) {
	c := plain(3, 1, 10, 20, 4, 6)
	for i, x := range []struct {
		a, b api.StockCloth
		l    []int
		e    api.Errno
	}{
		{c, c, from(3, 7), api.OK},
		{c, within(c, 12, 3000), from(4, 7), api.OK},
		{within(c, 12, 3000), c, from(4, 7), api.OK},
		{within(c, 0, 12), within(c, 11, 20), []int{3}, api.OK},
		{within(c, 0, 10), within(c, 11, 20), nil, api.ErrNone},
		{c, turned(c, 2), from(3, 7), api.OK},
		{c, turned(c, 6), []int{4, 5}, api.OK}, // each is turned at its own hours: after 4 hours 16 and 10, after 6 hours 22 and 12
		{c, plain(1, 0, 5, 6, 0), []int{5, 6}, api.OK},
		{plain(1, 0, 36, 36, 0), plain(1, 0, 36, 36, 0), []int{36}, api.OK},
		{example(), c, []int{6}, api.OK},
		{within(example(), 31, 44), c, nil, api.ErrNone}, // possibly at 6 and at 7
		{c, within(example(), 31, 44), nil, api.ErrNone},
		{c, within(c, 0, 3), nil, api.ErrNone},
	} {
		if l, e := stock.Both(x.a, x.b); !slices.Equal(l, x.l) || e != x.e {
			t.Errorf("%d: Both = %v, %d", i, l, e)
		}
	}
}

// TestBothErrors is for P3.11: the errors of the first cloth, with ErrState, then those of the second one.
func TestBothErrors(t *testing.T) {
	good, form, state := example(), api.StockCloth{}, example(measure(0, 0, 13, 0))
	long := example(slices.Repeat([]api.StockMeasure{measure(0, 0, 11, 1)}, 7)...)
	for i, x := range []struct {
		a, b api.StockCloth
		e    api.Errno
	}{
		{state, form, api.ErrState},
		{form, state, api.ErrForm},
		{long, form, api.ErrLong},
		{good, form, api.ErrForm},
		{good, turned(good, 0), api.ErrRange},
		{good, long, api.ErrLong},
		{good, example(measure(0, 0, -1, 0)), api.ErrArg},
		{good, state, api.ErrState},
		{plain(1, 0, 37, 37, 0), state, api.ErrState},
		{state, plain(1, 0, 37, 37, 0), api.ErrState},
	} {
		if l, e := stock.Both(x.a, x.b); len(l) != 0 || e != x.e {
			t.Errorf("%d: Both = %v, %d", i, l, e)
		}
	}
}

// TestWrong is for P3.12.
func TestWrong(t *testing.T) {
	right, six, seven := measure(0, 0, 11, 1), measure(0, 1, 16, 0), measure(1, 3, 21, 0) // the gain 6, and the gain 7
	bad := measure(0, 0, 13, 0)
	for i, x := range []struct {
		c api.StockCloth
		l []int
		e api.Errno
	}{
		{example(), nil, api.ErrTwice},
		{example(right), nil, api.ErrTwice},
		{example(bad), []int{0}, api.OK},
		{example(right, bad, seven), []int{1}, api.OK},
		{example(six, seven), []int{0}, api.OK}, // or the other one
		{example(seven, six), []int{0}, api.OK},
		{example(six, seven, seven), []int{0}, api.OK},
		{example(seven, seven, six), []int{2}, api.OK},
		{example(six, seven, six, seven), []int{0, 2}, api.OK}, // or 1 and 3
		{example(right, six, bad, seven), []int{1, 2}, api.OK},
		{example(bad, six, seven, seven, right, bad), []int{0, 1, 5}, api.OK},
		{example(measure(0, 0, 10, 0), measure(0, 0, 12, 0), measure(0, 0, 11, 1)), []int{0}, api.OK},
		{example(slices.Repeat([]api.StockMeasure{bad}, 6)...), from(0, 5), api.OK},
	} {
		if l, e := stock.Wrong(x.c); !slices.Equal(l, x.l) || e != x.e {
			t.Errorf("%d: Wrong = %v, %d", i, l, e)
		}
	}
}

package stream_test

import (
	"slices"
	"testing"

	"walkmill/api"
	"walkmill/stream"
)

// trials is how many small mills, and how many great ones, a test of what follows looks at.
const trials = 300

// TestGoesInAllTruths is for P2.12 (and for P2.2): Goes is as the count of all truths says.
func TestGoesInAllTruths(t *testing.T) {
	d := dice{1}
	var never, sure, maybe int
	for range trials {
		m, flows := d.small()
		plan := d.plan(m.Hammers, len(flows))
		list := truths(m, flows)
		first, last := len(plan), 0
		for _, x := range list {
			c := x.course(m, plan)
			first, last = min(first, c.fails), max(last, c.fails)
		}
		want, surely, e := first, last == first, api.OK
		switch {
		case first == len(plan):
			want, surely, e = 0, false, api.ErrNone
			never++
		case surely:
			sure++
		default:
			maybe++
		}
		if a, b, f := stream.Goes(m, flows, plan); a != want || b != surely || f != e {
			t.Fatalf("%v, %v: Goes(%v) = %d, %v, %d, not %d, %v, %d", m, flows, plan, a, b, f, want, surely, e)
		}
		if surely && slices.ContainsFunc(list, func(x truth) bool { return right(m, []truth{x}, plan[:want+1]) }) {
			t.Fatalf("%v, %v: %v is right up to %d in some truth", m, flows, plan, want)
		}
	}
	if never == 0 || sure == 0 || maybe == 0 {
		t.Errorf("not all cases are tried: %d, %d, %d", never, sure, maybe)
	}
}

// TestLevelsInAllTruths is for P2.12 and P2.13 (and for P2.3): the levels lie in Levels, both ends are reached, and no water is lost.
func TestLevelsInAllTruths(t *testing.T) {
	d := dice{2}
	found := 0
	for range trials {
		m, flows := d.small()
		plan := d.plan(m.Hammers, len(flows))
		list := truths(m, flows)
		l, e := stream.Levels(m, flows, plan)
		if !right(m, list, plan) {
			if len(l) != 0 || e != api.ErrState {
				t.Fatalf("%v, %v: Levels(%v) = %v, %d", m, flows, plan, l, e)
			}
			continue
		}
		found++
		var want []api.Span
		for hour := range plan {
			var levels []int
			for _, x := range list {
				c := x.course(m, plan)
				levels = append(levels, c.levels[hour])
			}
			want = append(want, to(slices.Min(levels), slices.Max(levels)))
		}
		if !slices.Equal(l, want) || e != api.OK {
			t.Fatalf("%v, %v: Levels(%v) = %v, %d, not %v", m, flows, plan, l, e, want)
		}
		for _, x := range list {
			conserved(t, m, x, plan)
		}
	}
	if found == 0 || found == trials {
		t.Errorf("not both cases are tried: %d of %d", found, trials)
	}
}

// conserved fails unless the levels of a truth that is known exactly keep all water that did not go over the weir.
func conserved(t *testing.T, m api.StreamMill, x truth, plan []int) {
	t.Helper()
	m.Now = to(x.now, x.now)
	l, e := stream.Levels(m, just(x.flows...), plan)
	if e != api.OK {
		t.Fatalf("%v, %v: Levels(%v) = %d", m, x, plan, e)
	}
	c := x.course(m, plan)
	left := x.now + sum(x.flows) - sum(plan)*m.Takes - c.over
	if end := l[len(l)-1]; end != to(left, left) {
		t.Fatalf("%v, %v: at the end of %v %v is in the pond, not %d", m, x, plan, end, left)
	}
}

// TestMostOfAllPlans is for P2.14 (and for P2.5 and P2.8): Most and Done are as the count of all plans in all truths says.
func TestMostOfAllPlans(t *testing.T) {
	d := dice{3}
	later := 0
	for range trials {
		m, flows := d.small()
		list := truths(m, flows)
		var best []int
		done := map[int]int{0: 0} // after how many hours so much work is done
		for hours := range len(flows) + 1 {
			best = make([]int, hours)
			for plan := range plans(m.Hammers, hours) {
				if !right(m, list, plan) {
					continue
				}
				if sum(plan) > sum(best) {
					best = plan
				}
				if _, ok := done[sum(plan)]; !ok {
					done[sum(plan)] = hours
				}
			}
		}
		if plan := most(t, m, flows); !slices.Equal(plan, best) {
			t.Fatalf("%v, %v: Most = %v, not %v", m, flows, plan, best)
		}
		for work := range m.Hammers*len(flows) + 2 {
			want, ok := done[work]
			e := api.OK
			if !ok {
				e = api.ErrNone
			}
			if hours, f := stream.Done(m, flows, work); hours != want || f != e {
				t.Fatalf("%v, %v: Done(%d) = %d, %d, not %d, %d", m, flows, work, hours, f, want, e)
			}
		}
		if best[0] < m.Hammers && sum(best) > 0 {
			later++
		}
	}
	if later == 0 {
		t.Error("no plan in which hammers wait is tried")
	}
}

// TestMostOfGreatMills is for P2.14: no plan that is tried has more hammers than Most, no hour can be worked more, and Done agrees.
func TestMostOfGreatMills(t *testing.T) {
	d := dice{4}
	for range trials {
		m, flows := d.great()
		best := most(t, m, flows)
		if _, _, e := stream.Goes(m, flows, best); e != api.ErrNone {
			t.Fatalf("%v, %v: Goes(%v) = %d", m, flows, best, e)
		}
		for hour := range best {
			if best[hour] == m.Hammers {
				continue
			}
			more := slices.Clone(best)
			more[hour]++
			if _, _, e := stream.Goes(m, flows, more); e != api.OK {
				t.Fatalf("%v, %v: one hammer more than %v can go at %d: %d", m, flows, best, hour, e)
			}
		}
		for range 20 {
			plan := d.plan(m.Hammers, len(flows))
			if _, _, e := stream.Goes(m, flows, plan); e == api.ErrNone && sum(plan) > sum(best) {
				t.Fatalf("%v, %v: %v has more than %v", m, flows, plan, best)
			}
		}
		if hours, e := stream.Done(m, flows, sum(best)); hours > len(flows) || e != api.OK {
			t.Fatalf("%v, %v: Done(%d) = %d, %d", m, flows, sum(best), hours, e)
		}
		if hours, e := stream.Done(m, flows, sum(best)+1); hours != 0 || e != api.ErrNone {
			t.Fatalf("%v, %v: Done(%d) = %d, %d", m, flows, sum(best)+1, hours, e)
		}
	}
}

// TestHowLong is for P2.15 (and for P2.6 and P2.7): Lasts is as the count of all truths says, and Window as Lasts says.
func TestHowLong(t *testing.T) {
	d := dice{5}
	unsure := 0
	for range trials {
		m, flows := d.small()
		list := truths(m, flows)
		hammers := d.From(1, m.Hammers)
		var surely []int
		for from := range flows {
			least, greatest := len(flows), 0
			for _, x := range list {
				c := x.course(m, steady(len(flows), hammers, from))
				least, greatest = min(least, c.fails-from), max(greatest, c.fails-from)
			}
			if a, b := lasts(t, m, flows, hammers, from); a != least || b != greatest {
				t.Fatalf("%v, %v: Lasts(%d, %d) = %d, %d, not %d, %d", m, flows, hammers, from, a, b, least, greatest)
			}
			if least < greatest {
				unsure++
			}
			surely = append(surely, least)
		}
		for hours := 1; hours <= len(flows)+1; hours++ {
			want, e := slices.IndexFunc(surely, func(n int) bool { return n >= hours }), api.OK
			if want < 0 {
				want, e = 0, api.ErrNone
			}
			if from, f := stream.Window(m, flows, hammers, hours); from != want || f != e {
				t.Fatalf("%v, %v: Window(%d, %d) = %d, %d, not %d, %d", m, flows, hammers, hours, from, f, want, e)
			}
		}
	}
	if unsure == 0 {
		t.Error("no span in which they possibly last longer is tried")
	}
}

// TestNoLessLong is for P2.15: with fewer hammers, more water, or a greater pond they last no less long.
func TestNoLessLong(t *testing.T) {
	d := dice{6}
	longer := [3]int{}
	for range 4 * trials {
		m, flows := d.great()
		hammers, from := d.From(1, m.Hammers), d.From(0, len(flows)-1)
		surely, possibly := lasts(t, m, flows, hammers, from)
		great, wet := m, slices.Clone(flows)
		great.Holds = min(api.MaxStreamHolds, m.Holds+d.From(0, 100))
		for i, s := range wet {
			more := d.From(0, 50)
			wet[i] = to(min(api.MaxStreamFlow, s.Low+more), min(api.MaxStreamFlow, s.High+more))
		}
		for i, x := range []struct {
			m       api.StreamMill
			flows   []api.Span
			hammers int
		}{{m, flows, d.From(1, hammers)}, {m, wet, hammers}, {great, flows, hammers}} {
			a, b := lasts(t, x.m, x.flows, x.hammers, from)
			if a < surely || b < possibly {
				t.Fatalf("%v, %v: %d hammers last %d, %d, but of %v, %v %d last %d, %d", m, flows, hammers, surely, possibly, x.m, x.flows, x.hammers, a, b)
			}
			if a > surely {
				longer[i]++
			}
		}
	}
	if slices.Contains(longer[:], 0) {
		t.Errorf("not all cases are tried: %v", longer)
	}
}

// TestWhatCame is for P2.16 (and for P2.10): Stopped is as the count of all truths says.
func TestWhatCame(t *testing.T) {
	d := dice{7}
	found := 0
	for range trials {
		m, flows := d.small()
		plan := d.plan(m.Hammers, d.From(1, len(flows)))
		var want []api.Span
		for _, x := range truths(m, flows) {
			if c := x.course(m, plan); c.fails != len(plan)-1 {
				continue
			}
			if want == nil {
				want = just(x.flows[:len(plan)]...)
			}
			for hour := range plan {
				want[hour] = to(min(want[hour].Low, x.flows[hour]), max(want[hour].High, x.flows[hour]))
			}
		}
		e := api.OK
		if want == nil {
			e = api.ErrState
		} else {
			found++
		}
		if l, f := stream.Stopped(m, flows, plan); !slices.Equal(l, want) || f != e {
			t.Fatalf("%v, %v: Stopped(%v) = %v, %d, not %v, %d", m, flows, plan, l, f, want, e)
		}
	}
	if found == 0 || found == trials {
		t.Errorf("not both cases are tried: %d of %d", found, trials)
	}
}

// TestWhatCameInGreatMills is for P2.16: what came in a truth in which the wheel stopped lies in Stopped.
func TestWhatCameInGreatMills(t *testing.T) {
	d := dice{8}
	found := 0
	for range 10 * trials {
		m, flows := d.great()
		plan := d.plan(m.Hammers, len(flows))
		x := d.any(m, flows)
		c := x.course(m, plan)
		if c.fails == len(plan) {
			continue
		}
		found++
		l, e := stream.Stopped(m, flows, plan[:c.fails+1])
		if len(l) != c.fails+1 || e != api.OK {
			t.Fatalf("%v, %v: Stopped(%v) = %v, %d", m, flows, plan[:c.fails+1], l, e)
		}
		for hour, s := range l {
			if x.flows[hour] < s.Low || x.flows[hour] > s.High {
				t.Fatalf("%v, %v: Stopped(%v) = %v, but of %d can come %d", m, flows, plan[:c.fails+1], l, hour, x.flows[hour])
			}
		}
	}
	if found == 0 {
		t.Error("no wheel stops")
	}
}

// TestHeldBack is for P2.16 (and for P2.9): Upstream is as the count of all truths says.
func TestHeldBack(t *testing.T) {
	d := dice{9}
	var all, some, nothing int
	for range trials {
		m, flows := d.small()
		plan := d.plan(m.Hammers, len(flows))
		list := truths(m, flows)
		held, e := stream.Upstream(m, flows, plan)
		if !right(m, list, plan) {
			if held != 0 || e != api.ErrState {
				t.Fatalf("%v, %v: Upstream(%v) = %d, %d", m, flows, plan, held, e)
			}
			continue
		}
		want := 0
		for want < api.MaxStreamFlow && right(m, heldBack(list, want+1), plan) {
			want++
		}
		if held != want || e != api.OK {
			t.Fatalf("%v, %v: Upstream(%v) = %d, %d, not %d", m, flows, plan, held, e, want)
		}
		switch want {
		case 0:
			nothing++
		case api.MaxStreamFlow:
			all++
		default:
			some++
		}
	}
	if all == 0 || some == 0 || nothing == 0 {
		t.Errorf("not all cases are tried: %d, %d, %d", all, some, nothing)
	}
}

// TestHeldBackFromGreatMills is for P2.16: with what Upstream says the plan surely is right, with one more it is not.
func TestHeldBackFromGreatMills(t *testing.T) {
	d := dice{10}
	some := 0
	for range trials {
		m, flows := d.great()
		plan := most(t, m, flows)
		for hour := range plan {
			plan[hour] = d.From(0, plan[hour])
		}
		held, e := stream.Upstream(m, flows, plan)
		if e != api.OK {
			t.Fatalf("%v, %v: Upstream(%v) = %d", m, flows, plan, e)
		}
		without := func(held int) []api.Span {
			var left []api.Span
			for _, s := range flows {
				left = append(left, to(max(0, s.Low-held), max(0, s.High-held)))
			}
			return left
		}
		if _, _, e := stream.Goes(m, without(held), plan); e != api.ErrNone {
			t.Fatalf("%v, %v: %v is not right with %d held back", m, flows, plan, held)
		}
		if held == api.MaxStreamFlow {
			continue
		}
		some++
		if _, _, e := stream.Goes(m, without(held+1), plan); e != api.OK {
			t.Fatalf("%v, %v: %v is right with %d held back", m, flows, plan, held+1)
		}
	}
	if some == 0 {
		t.Error("no mill from which not all can be held back is tried")
	}
}

// TestMoreRain is for P2.16 (and for P2.11): Rain is as the count of all truths says, with it the plan is right, with less in this hour it is not.
func TestMoreRain(t *testing.T) {
	d := dice{11}
	found, none := 0, 0
	for range trials {
		m, flows := d.small()
		plan := d.plan(m.Hammers, len(flows))
		list := truths(m, flows)
		hour, more, e := stream.Rain(m, flows, plan)
		if right(m, list, plan) {
			if hour != 0 || more != 0 || e != api.ErrTwice {
				t.Fatalf("%v, %v: Rain(%v) = %d, %d, %d", m, flows, plan, hour, more, e)
			}
			continue
		}
		at, least := 0, api.MaxStreamFlow+1
		for h := range flows {
			for n := 1; n < least; n++ {
				if right(m, wetter(list, h, n), plan) {
					at, least = h, n
				}
			}
		}
		want := api.OK
		if least > api.MaxStreamFlow {
			at, least, want = 0, 0, api.ErrNone
			none++
		} else {
			found++
		}
		if hour != at || more != least || e != want {
			t.Fatalf("%v, %v: Rain(%v) = %d, %d, %d, not %d, %d, %d", m, flows, plan, hour, more, e, at, least, want)
		}
	}
	if found == 0 || none == 0 {
		t.Errorf("not all cases are tried: %d, %d", found, none)
	}
}

// TestBlowsOfAllHammers is for P2.4: each hammer of a plan gives its blows.
func TestBlowsOfAllHammers(t *testing.T) {
	d := dice{12}
	for range trials {
		m, flows := d.great()
		plan := d.plan(m.Hammers, len(flows))
		want := to(0, 0)
		for _, hammers := range plan {
			for range hammers {
				want = to(want.Low+m.Blows.Low, want.High+m.Blows.High)
			}
		}
		if s, e := stream.Blows(m, plan); s != want || e != api.OK {
			t.Fatalf("%v: Blows(%v) = %v, %d, not %v", m, plan, s, e, want)
		}
	}
}

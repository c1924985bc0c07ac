package stock_test

import (
	"slices"
	"testing"

	"walkmill/api"
	"walkmill/samples"
	"walkmill/stock"
)

// trials is how many small cloths, and how many great ones, a test of what follows looks at.
const trials = 200

// agrees fails unless At, Gains, Fit, Out and Ever are as the count of all truths says.
func agrees(t *testing.T, c api.StockCloth) tally {
	t.Helper()
	n := count(c)
	for hour := range hours {
		if l := at(t, c, hour); !slices.Equal(l, n.at[hour][:len(c.Parts)]) {
			t.Fatalf("%v: At(%d) = %v, not %v", c, hour, l, n.at[hour])
		}
	}
	if strong, weak := gains(t, c); strong != n.strong || weak != n.weak {
		t.Fatalf("%v: Gains = %v, %v, not %v, %v", c, strong, weak, n.strong, n.weak)
	}
	if surely, possibly := fit(t, c); !slices.Equal(surely, n.surely) || !slices.Equal(possibly, n.possibly) {
		t.Fatalf("%v: Fit = %v, %v, not %v, %v", c, surely, possibly, n.surely, n.possibly)
	}
	hour, e := stock.Out(c)
	if len(n.surely) > 0 && (hour != n.surely[0] || e != api.OK) || len(n.surely) == 0 && (hour != 0 || e != api.ErrNone) {
		t.Fatalf("%v: Out = %d, %d, and surely fit is it at %v", c, hour, e, n.surely)
	}
	if surely, possibly, e := stock.Ever(c); surely != n.always || possibly != n.ever || e != api.OK {
		t.Fatalf("%v: Ever = %v, %v, %d, not %v, %v", c, surely, possibly, e, n.always, n.ever)
	}
	return n
}

// TestAllTruths is for P3.13 and P3.14 (and for P3.3 to P3.7): At, Gains, Fit, Out and Ever are as the count of all truths says.
func TestAllTruths(t *testing.T) {
	d := dice{1}
	var out, ever, sometimes, never int
	for range 2 * trials {
		c, _ := d.measured(small, 3)
		if d.From(0, 2) == 0 {
			c.Harm = min(c.Harm, c.Full+d.From(0, 12))
		}
		switch n := agrees(t, c); {
		case len(n.surely) > 0:
			out++
		case n.always:
			ever++
		case n.ever:
			sometimes++
		default:
			never++
		}
	}
	if out == 0 || ever == 0 || sometimes == 0 || never == 0 {
		t.Errorf("not all cases are tried: %d, %d, %d, %d", out, ever, sometimes, never)
	}
}

// TestAllTruthsOfTheLeastKnown is for P3.13 and P3.14: so it is of cloths of which as little is known as may be.
func TestAllTruthsOfTheLeastKnown(t *testing.T) {
	d := dice{2}
	for i := range 4 {
		near, strong := d.From(8, 900), d.From(8, 42)
		c := api.StockCloth{Turn: d.From(1, api.MaxStockTurn), Start: d.From(0, 2), Strong: to(strong, strong+8), Weak: to(strong-8, strong)}
		for range api.MaxStockParts {
			low := near + d.From(-8, 8)
			c.Parts = append(c.Parts, to(low, low+8))
		}
		c.Full = near + 10*strong
		c.Harm = c.Full + d.From(50, 150)
		if i%2 == 1 {
			c.Measures = append(c.Measures, measure(2, 9, near+9*strong, 10))
		}
		if n := agrees(t, c); n.truths == 0 || len(n.possibly) == 0 || i%2 == 0 && n.truths != 59049 {
			t.Errorf("%v: %d truths, possibly fit at %v", c, n.truths, n.possibly)
		}
	}
}

// TestNoThinner is for P3.13: from hour to hour neither end of a span of At is smaller.
func TestNoThinner(t *testing.T) {
	d := dice{3}
	for range trials {
		c, _ := d.measured(great, api.MaxStockMeasures)
		for hour := range api.MaxStockHours {
			now, next := at(t, c, hour), at(t, c, hour+1)
			for part, s := range now {
				if next[part].Low < s.Low || next[part].High < s.High {
					t.Fatalf("%v: the part %d is %v after %d hours, and %v later", c, part, s, hour, next[part])
				}
			}
		}
	}
}

// TestInATruth is for P3.13 and P3.14: in a truth of a great cloth all is as At, Gains, Fit, Out and Ever say.
func TestInATruth(t *testing.T) {
	d := dice{4}
	sure, unsure := 0, 0
	for range 10 * trials {
		c, way := d.measured(great, api.MaxStockMeasures)
		surely, possibly := fit(t, c)
		for hour := range hours {
			for part, s := range at(t, c, hour) {
				if thick := way.thick[hour][part]; thick < s.Low || thick > s.High {
					t.Fatalf("%v: the part %d is %d after %d hours, At says %v", c, part, thick, hour, s)
				}
			}
			if !way.fit[hour] && slices.Contains(surely, hour) || way.fit[hour] && !slices.Contains(possibly, hour) {
				t.Fatalf("%v: with %v at %d it is so: %v, Fit says %v, %v", c, way.truth, hour, way.fit[hour], surely, possibly)
			}
		}
		strong, weak := gains(t, c)
		if !samples.Lies(to(way.strong, way.strong), strong) || !samples.Lies(to(way.weak, way.weak), weak) {
			t.Fatalf("%v: the gains %d and %d do not lie in %v and %v", c, way.strong, way.weak, strong, weak)
		}
		always, ever, e := stock.Ever(c)
		hour, none := stock.Out(c)
		if !ever || e != api.OK || none == api.OK && (!always || !way.fit[hour]) {
			t.Fatalf("%v: with %v Out = %d, %d, Ever = %v, %v, %d", c, way.truth, hour, none, always, ever, e)
		}
		if none == api.OK {
			sure++
		} else {
			unsure++
		}
	}
	if sure == 0 || unsure == 0 {
		t.Errorf("not both cases are tried: %d, %d", sure, unsure)
	}
}

// TestShares is for P3.2: in each hour one part is beaten more, and it gains Strong, the others Weak.
func TestShares(t *testing.T) {
	d := dice{5}
	for range trials {
		c, way := d.cloth(great)
		for hour := range hours {
			l, e := stock.Beaten(c, hour)
			if len(l) != len(c.Parts) || e != api.OK {
				t.Fatalf("%v: Beaten(%d) = %v, %d", c, hour, l, e)
			}
			all := 0
			for part, beaten := range l {
				all += beaten
				if thick := way.firsts[part] + beaten*way.strong + (hour-beaten)*way.weak; thick != way.thick[hour][part] {
					t.Fatalf("%v: Beaten(%d) = %v, and the part %d would be %d, not %d", c, hour, l, part, thick, way.thick[hour][part])
				}
			}
			if all != hour {
				t.Fatalf("%v: Beaten(%d) = %v", c, hour, l)
			}
		}
	}
}

// decided reports whether a measuring decides among some truths, by trying all that can be read.
func decided(list []*course, m api.StockMeasure) bool {
	readings := map[int]bool{}
	for _, way := range list {
		for off := -m.Off; off <= m.Off; off++ {
			readings[way.thick[m.Hour][m.Part]+off] = true
		}
	}
	for reading := range readings {
		m.Reading = reading
		var good [hours]bool
		for hour := m.Hour; hour < hours; hour++ {
			good[hour] = true
			for _, way := range list {
				good[hour] = good[hour] && (way.fit[hour] || !way.right(m))
			}
		}
		if !slices.Contains(good[:], true) {
			return false
		}
	}
	return true
}

// firstLook is the first measuring that decides among all truths of a cloth, and whether there is one.
func firstLook(c api.StockCloth, off int) (api.StockMeasure, bool) {
	list := slices.Collect(truths(c))
	for hour := range hours {
		for part := range c.Parts {
			if m := measure(part, hour, 0, off); decided(list, m) {
				return m, true
			}
		}
	}
	return api.StockMeasure{}, false
}

// hasty makes a small cloth that can be harmed soon after it is fit.
func (d *dice) hasty() api.StockCloth {
	c, way := d.measured(small, 1)
	thick := way.thick[slices.Index(way.fit[:], true)]
	c.Harm = slices.Max(thick[:len(c.Parts)]) + d.From(0, 5)
	return c
}

// TestLookInAllTruths is for P3.15 (and for P3.8): Look is as the count of all measurings, readings and truths says.
func TestLookInAllTruths(t *testing.T) {
	d := dice{6}
	var early, late, none, twice int
	for range 5 * trials {
		c := d.hasty()
		off := max(0, d.From(-2, 3))
		m, e := stock.Look(c, off)
		want, found := firstLook(c, off)
		n := count(c)
		switch {
		case len(n.surely) > 0:
			want, found = api.StockMeasure{}, false
			twice++
			if e != api.ErrTwice {
				t.Fatalf("%v: Look(%d) = %v, %d, and it is fit at %v", c, off, m, e, n.surely)
			}
		case !found:
			none++
		case want.Hour > 0:
			late++
		default:
			early++
		}
		if m != want || (e == api.OK) != found || !found && len(n.surely) == 0 && e != api.ErrNone {
			t.Fatalf("%v: Look(%d) = %v, %d, not %v", c, off, m, e, want)
		}
	}
	if early == 0 || late == 0 || none == 0 || twice == 0 {
		t.Errorf("not all cases are tried: %d, %d, %d, %d", early, late, none, twice)
	}
}

// TestItDecides is for P3.15: with what is read in any truth there is an hour, not before the measuring, at which the cloth surely is fit.
func TestItDecides(t *testing.T) {
	d := dice{7}
	found := 0
	for range 10 * trials {
		c, way := d.measured(great, api.MaxStockMeasures-1)
		m, e := stock.Look(c, d.From(0, 3))
		if e != api.OK {
			continue
		}
		found++
		m.Reading = way.thick[m.Hour][m.Part] + d.From(-m.Off, m.Off)
		m.Reading = max(0, m.Reading) // as near
		surely, _ := fit(t, with(c, m))
		if len(surely) == 0 || surely[len(surely)-1] < m.Hour {
			t.Fatalf("%v: with %v it surely is fit at %v", c, m, surely)
		}
	}
	if found == 0 {
		t.Error("nothing to look at is found")
	}
}

// TestOneMore is for P3.16: what one measuring more can do.
func TestOneMore(t *testing.T) {
	d := dice{8}
	narrower, surer := 0, 0
	for range 10 * trials {
		c, way := d.measured(great, 2)
		before, possible := fit(t, c)
		list := d.measures(c, way, 1)
		more := with(c, list...)
		after, left := fit(t, more)
		if slices.ContainsFunc(before, func(hour int) bool { return !slices.Contains(after, hour) }) {
			t.Fatalf("%v: surely fit at %v, with %v at %v", c, before, list, after)
		}
		if slices.ContainsFunc(left, func(hour int) bool { return !slices.Contains(possible, hour) }) {
			t.Fatalf("%v: possibly fit at %v, with %v at %v", c, possible, list, left)
		}
		a, b := gains(t, c)
		p, q := gains(t, more)
		if !samples.Lies(p, a) || !samples.Lies(q, b) {
			t.Fatalf("%v: gains %v and %v, with %v %v and %v", c, a, b, list, p, q)
		}
		for hour := range hours {
			wide, narrow := at(t, c, hour), at(t, more, hour)
			for part := range wide {
				if !samples.Lies(narrow[part], wide[part]) {
					t.Fatalf("%v: At(%d) = %v, with %v %v", c, hour, wide, list, narrow)
				}
			}
			if !slices.Equal(narrow, wide) {
				narrower++
			}
		}
		if len(after) > len(before) {
			surer++
		}
	}
	if narrower == 0 || surer == 0 {
		t.Errorf("no measuring tells anything: %d, %d", narrower, surer)
	}
}

// TestTheWrongOnes is for P3.17 (and for P3.12): Wrong is as the count of all lists and truths says.
func TestTheWrongOnes(t *testing.T) {
	d := dice{9}
	var right, one, many int
	for range trials {
		c, way := d.measured(small, 3)
		for range d.From(0, 3) {
			m := measure(d.From(0, len(c.Parts)-1), d.From(0, 9), 0, d.From(0, 2))
			m.Reading = max(0, way.thick[m.Hour][m.Part]+d.From(-20, 20))
			c.Measures = slices.Insert(c.Measures, d.From(0, len(c.Measures)), m)
		}
		var want []int
		for _, list := range samples.Sets(len(c.Measures)) {
			if hasTruth(without(c, list)) {
				want = list
				break
			}
		}
		e := api.OK
		switch len(want) {
		case 0:
			e = api.ErrTwice
			right++
		case 1:
			one++
		default:
			many++
		}
		l, f := stock.Wrong(c)
		if !slices.Equal(l, want) || f != e {
			t.Fatalf("%v: Wrong = %v, %d, not %v, %d", c, l, f, want, e)
		}
		for i := range l { // with any one of them there is no truth
			if fewer := slices.Delete(slices.Clone(l), i, i+1); hasTruth(without(c, fewer)) {
				t.Fatalf("%v: of %v only %v must be wrong", c, l, fewer)
			}
		}
	}
	if right == 0 || one == 0 || many == 0 {
		t.Errorf("not all cases are tried: %d, %d, %d", right, one, many)
	}
}

// TestTrueStart is for P3.17 (and for P3.10): Starts is as the count of all truths says, and has the part that truly was beaten first.
func TestTrueStart(t *testing.T) {
	d := dice{10}
	fewer, more := 0, 0
	for range trials {
		c, way := d.measured(small, 4)
		start := c.Start
		c.Start = d.From(0, len(c.Parts)-1)
		var want []int
		for part := range c.Parts {
			if hasTruth(begun(c, part)) {
				want = append(want, part)
			}
		}
		l, e := stock.Starts(c)
		if !slices.Equal(l, want) || !slices.Contains(l, start) || e != api.OK {
			t.Fatalf("%v: Starts = %v, %d, not %v, and it was %d with %v", c, l, e, want, start, way.truth)
		}
		if len(l) < len(c.Parts) {
			fewer++
		}
		if len(l) > 1 {
			more++
		}
	}
	if fewer == 0 || more == 0 {
		t.Errorf("not all cases are tried: %d, %d", fewer, more)
	}
}

// TestBestTurn is for P3.9: Turns is as the count of all truths with each Turn says.
func TestBestTurn(t *testing.T) {
	d := dice{11}
	var none, first, later int
	for range trials {
		c, _ := d.cloth(small)
		turn, hour, e := stock.Turns(c)
		var best, earliest int
		for other := api.MaxStockTurn; other > 0; other-- {
			if n := count(turned(c, other)); len(n.surely) > 0 && (best == 0 || n.surely[0] <= earliest) {
				best, earliest = other, n.surely[0]
			}
		}
		want := api.OK
		switch best {
		case 0:
			want = api.ErrNone
			none++
		case 1:
			first++
		default:
			later++
		}
		if turn != best || hour != earliest || e != want {
			t.Fatalf("%v: Turns = %d, %d, %d, not %d, %d, %d", c, turn, hour, e, best, earliest, want)
		}
	}
	if none == 0 || first == 0 || later == 0 {
		t.Errorf("not all cases are tried: %d, %d, %d", none, first, later)
	}
}

// TestBothInAllTruths is for P3.11: Both is as the count of all truths of both cloths says.
func TestBothInAllTruths(t *testing.T) {
	d := dice{12}
	none, some := 0, 0
	for range 2 * trials {
		a, _ := d.measured(small, 3)
		b, _ := d.measured(small, 3)
		other := count(b).surely
		want := slices.DeleteFunc(count(a).surely, func(hour int) bool { return !slices.Contains(other, hour) })
		e := api.OK
		if len(want) == 0 {
			e = api.ErrNone
			none++
		} else {
			some++
		}
		if l, f := stock.Both(a, b); !slices.Equal(l, want) || f != e {
			t.Fatalf("%v and %v: Both = %v, %d, not %v, %d", a, b, l, f, want, e)
		}
	}
	if none == 0 || some == 0 {
		t.Errorf("not both cases are tried: %d, %d", none, some)
	}
}

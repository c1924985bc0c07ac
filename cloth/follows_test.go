package cloth_test

import (
	"slices"
	"testing"

	"walkmill/api"
	"walkmill/cloth"
	"walkmill/samples"
)

// trials is how many cloths a test of what follows looks at.
const trials = 60

// TestBetween is for P1.11 (and for P1.2 to P1.4): the spans are those of all truths, and no end of them grows from hour to hour.
func TestBetween(t *testing.T) {
	d := dice{1}
	for range trials {
		c, _ := d.cloth(5)
		var before []api.Span
		for hour := range api.MaxClothHours + 1 {
			l := at(t, c, hour)
			for what, s := range l {
				want := ends(pairs(c, api.ClothWhat(what)), func(p pair) int { return p.at(hour) })
				if s != want {
					t.Fatalf("%v: at %d %d is in %v, not %v", c, hour, what, s, want)
				}
				if hour > 0 && (s.Low > before[what].Low || s.High > before[what].High) {
					t.Fatalf("%v: at %d %d grows from %v to %v", c, hour, what, before[what], s)
				}
			}
			before = l
		}
		for what, s := range rates(t, c) {
			if want := ends(pairs(c, api.ClothWhat(what)), func(p pair) int { return p.rate }); s != want {
				t.Fatalf("%v: rate %d is in %v, not %v", c, what, s, want)
			}
		}
		checkBelow(t, c, api.ClothWhat(d.From(0, 2)), d.From(0, 310))
	}
}

// checkBelow compares Below with At.
func checkBelow(t *testing.T, c api.Cloth, what api.ClothWhat, limit int) {
	t.Helper()
	surely, possibly := api.MaxClothHours+1, api.MaxClothHours+1
	for hour := api.MaxClothHours; hour >= 0; hour-- {
		s := at(t, c, hour)[what]
		if s.High <= limit {
			surely = hour
		}
		if s.Low <= limit {
			possibly = hour
		}
	}
	if a, b := below(t, c, what, limit); a != surely || b != possibly {
		t.Fatalf("%v: Below(%d, %d) = %d, %d, not %d, %d", c, what, limit, a, b, surely, possibly)
	}
}

// TestOneMore is for P1.12 (and for P1.5): what one measuring more can do.
func TestOneMore(t *testing.T) {
	d := dice{2}
	var sure, maybe, never int
	for range 4 * trials {
		c, truth := d.cloth(4)
		what, hour := api.ClothWhat(d.From(0, 2)), d.From(0, 10)
		reading := max(0, min(api.MaxClothSize, truth[what].at(hour)+d.From(-12, 12)))
		m := measure(what, hour, reading, d.From(0, 20))
		surely, possibly, e := cloth.Fits(c, m)
		list := pairs(c, what)
		misses := func(p pair) bool { return !p.near(m.Hour, m.Reading, m.Off) }
		fits := func(p pair) bool { return p.near(m.Hour, m.Reading, m.Off) }
		if surely == slices.ContainsFunc(list, misses) || possibly != slices.ContainsFunc(list, fits) || e != api.OK {
			t.Fatalf("%v: Fits(%v) = %v, %v, %d", c, m, surely, possibly, e)
		}
		more := with(c, m)
		switch {
		case surely:
			sure++
			unchanged(t, c, more)
		case possibly:
			maybe++
			notWider(t, c, more, d.From(0, 300))
		default:
			never++
			if _, e := cloth.At(more, 0); e != api.ErrState {
				t.Fatalf("%v: At with %v = %d", c, m, e)
			}
		}
	}
	if sure == 0 || maybe == 0 || never == 0 {
		t.Errorf("not all cases are tried: %d, %d, %d", sure, maybe, never)
	}
}

// unchanged fails unless a cloth is known just as well as it was.
func unchanged(t *testing.T, c, more api.Cloth) {
	t.Helper()
	for hour := range api.MaxClothHours + 1 {
		if !slices.Equal(at(t, c, hour), at(t, more, hour)) {
			t.Fatalf("%v: At(%d) changes with %v", c, hour, more.Measures)
		}
	}
	if !slices.Equal(rates(t, c), rates(t, more)) {
		t.Fatalf("%v: Rates changes with %v", c, more.Measures)
	}
}

// notWider fails if something of a cloth is known less than it was.
func notWider(t *testing.T, c, more api.Cloth, limit int) {
	t.Helper()
	for hour := range api.MaxClothHours + 1 {
		before := at(t, c, hour)
		for what, s := range at(t, more, hour) {
			if !samples.Lies(s, before[what]) {
				t.Fatalf("%v: At(%d) is wider with %v", c, hour, more.Measures)
			}
		}
	}
	before := rates(t, c)
	for what, s := range rates(t, more) {
		if !samples.Lies(s, before[what]) {
			t.Fatalf("%v: Rates is wider with %v", c, more.Measures)
		}
	}
	for what := range api.ClothHeavy + 1 {
		a, b := below(t, c, what, limit)
		surely, possibly := below(t, more, what, limit)
		if surely > a || possibly < b {
			t.Fatalf("%v: Below(%d, %d) from %d, %d to %d, %d", c, what, limit, a, b, surely, possibly)
		}
	}
}

// TestWrongOnes is for P1.13 (and for P1.6): Wrong is the smallest of the shortest lists without which there is a truth.
func TestWrongOnes(t *testing.T) {
	d := dice{3}
	several := 0
	for range trials {
		c, truth := d.cloth(api.MaxClothMeasures)
		misread := 0
		for i, m := range c.Measures {
			if d.From(0, 1) == 0 {
				c.Measures[i].Reading = max(0, m.Reading-d.From(1, 30))
				if !truth[m.What].near(m.Hour, c.Measures[i].Reading, m.Off) {
					misread++
				}
			}
		}
		all := samples.Sets(len(c.Measures))
		want := all[slices.IndexFunc(all, func(list []int) bool { return hasTruth(without(c, list)) })]
		e := api.OK
		if len(want) == 0 {
			e = api.ErrTwice
		}
		l, f := cloth.Wrong(c)
		if !slices.Equal(l, want) || f != e {
			t.Fatalf("%v: Wrong = %v, %d, not %v", c, l, f, want)
		}
		if len(l) > misread {
			t.Fatalf("%v: Wrong = %v, but %d were misread", c, l, misread)
		}
		if _, e := cloth.At(without(c, l), 0); e != api.OK {
			t.Fatalf("%v: without %v At = %d", c, l, e)
		}
		if len(l) > 1 {
			several++
		}
	}
	if several == 0 {
		t.Error("no cloth with several wrong measurings is tried")
	}
}

// TestWhereToLook is for P1.14 (and for P1.7): what the readings of each hour leave.
func TestWhereToLook(t *testing.T) {
	d := dice{4}
	found := 0
	for range trials {
		c, _ := d.cloth(3)
		what, off := api.ClothWhat(d.From(0, 2)), d.From(0, 6)
		list := pairs(c, what)
		hour, left := 0, len(list)
		for h := range api.MaxClothHours + 1 {
			if n := mostLeft(list, h, off); n < left {
				hour, left = h, n
			}
		}
		e := api.OK
		if left == len(list) {
			hour, left, e = 0, 0, api.ErrTwice
		} else {
			found++
		}
		if a, b, f := cloth.Look(c, what, off); a != hour || b != left || f != e {
			t.Fatalf("%v: Look(%d, %d) = %d, %d, %d, not %d, %d, %d", c, what, off, a, b, f, hour, left, e)
		}
	}
	if found == 0 || found == trials {
		t.Errorf("not both cases are tried: %d of %d", found, trials)
	}
}

// mostLeft tries each reading at an hour.
func mostLeft(list []pair, hour, off int) int {
	readings := map[int]int{}
	for _, p := range list {
		size := p.at(hour)
		for reading := size - off; reading <= size+off; reading++ {
			readings[reading]++
		}
	}
	most := 0
	for _, n := range readings {
		most = max(most, n)
	}
	return most
}

// TestHowLong is for P1.15 (and for P1.9): the hour for which a cloth was truly beaten is among those of Hours.
func TestHowLong(t *testing.T) {
	d := dice{5}
	for range trials {
		c, truth := d.cloth(3)
		hour := d.From(0, api.MaxClothHours)
		var now []api.Span
		for _, p := range truth {
			size := p.at(hour)
			now = append(now, to(max(0, size-d.From(0, 3)), size+d.From(0, 3)))
			now[len(now)-1].High = min(now[len(now)-1].High, api.MaxClothSize)
		}
		var want []int
		for h := range api.MaxClothHours + 1 {
			if canBe(c, h, now) {
				want = append(want, h)
			}
		}
		l, e := cloth.Hours(c, now)
		if !slices.Equal(l, want) || !slices.Contains(l, hour) || e != api.OK {
			t.Fatalf("%v: Hours(%v) = %v, %d, not %v with %d", c, now, l, e, want, hour)
		}
	}
}

// canBe reports whether all quantities of a cloth can lie in spans at an hour.
func canBe(c api.Cloth, hour int, now []api.Span) bool {
	for what, s := range now {
		if !slices.ContainsFunc(pairs(c, api.ClothWhat(what)), func(p pair) bool { return p.at(hour) >= s.Low && p.at(hour) <= s.High }) {
			return false
		}
	}
	return true
}

// TestWhichYarn is for P1.15 (and for P1.8): the yarn in which the rates of a cloth lie is among Yarns.
func TestWhichYarn(t *testing.T) {
	d := dice{6}
	others := 0
	for range trials {
		c, truth := d.cloth(6)
		var yarns [][]api.Span
		for range api.MaxClothYarns {
			var yarn []api.Span
			for _, p := range truth {
				rate := max(0, min(api.MaxClothRate, p.rate+d.From(-12, 12)))
				yarn = append(yarn, to(rate, min(api.MaxClothRate, rate+d.From(0, 8))))
			}
			yarns = append(yarns, yarn)
		}
		own := d.From(0, api.MaxClothYarns-1)
		for what, p := range truth {
			yarns[own][what] = to(max(0, p.rate-d.From(0, 5)), min(api.MaxClothRate, p.rate+d.From(0, 5)))
		}
		var want []int
		for i, yarn := range yarns {
			other := c
			for what, s := range yarn {
				other = withTrack(other, api.ClothWhat(what), api.ClothTrack{First: c.Tracks[what].First, Rate: s})
			}
			if hasTruth(other) {
				want = append(want, i)
			}
		}
		l, e := cloth.Yarns(c, yarns)
		if !slices.Equal(l, want) || !slices.Contains(l, own) || e != api.OK {
			t.Fatalf("%v: Yarns(%v) = %v, %d, not %v with %d", c, yarns, l, e, want, own)
		}
		others += len(yarns) - len(l)
	}
	if others == 0 {
		t.Error("no yarn of which a cloth cannot be is tried")
	}
}

// TestTrulySewn is for P1.15 (and for P1.10): two cloths that truly were sewn together possibly are.
func TestTrulySewn(t *testing.T) {
	d := dice{7}
	var both, one, none int
	for range 4 * trials {
		a, truth := d.cloth(3)
		b, other := d.cloth(3)
		other[1].first = truth[1].first
		b.Tracks[1] = d.track(other[1])
		b.Measures = d.measures(other, 3)
		seam := d.From(0, min(api.MaxClothSeam, truth[0].first))
		joined := [3]pair{{truth[0].first + other[0].first - seam, 5}, {truth[1].first, 5}, {truth[2].first + other[2].first, 5}}
		if joined[0].first < 1 || joined[0].first > api.MaxClothSize || joined[2].first > api.MaxClothSize {
			continue
		}
		whole := api.Cloth{Measures: d.measures(joined, 3)}
		for _, p := range joined {
			whole.Tracks = append(whole.Tracks, d.track(p))
		}
		if _, possibly, e := cloth.Sewn([2]api.Cloth{a, b}, whole, seam); !possibly || e != api.OK {
			t.Fatalf("%v, %v, %v, %d: Sewn = %v, %d", a, b, whole, seam, possibly, e)
		}
		if d.From(0, 3) == 0 { // so that they surely are
			a, b, whole = known(truth), known(other), known(joined)
		}
		seam = max(0, min(api.MaxClothSeam, seam+d.From(-1, 1)*d.From(0, 15)))
		surely, possibly, e := cloth.Sewn([2]api.Cloth{a, b}, whole, seam)
		wantSurely, wantPossibly := sewn(a, b, whole, seam)
		if surely != wantSurely || possibly != wantPossibly || e != api.OK {
			t.Fatalf("%v, %v, %v, %d: Sewn = %v, %v, %d, not %v, %v", a, b, whole, seam, surely, possibly, e, wantSurely, wantPossibly)
		}
		switch {
		case surely:
			both++
		case possibly:
			one++
		default:
			none++
		}
	}
	if both == 0 || one == 0 || none == 0 {
		t.Errorf("not all cases are tried: %d, %d, %d", both, one, none)
	}
}

// known is a cloth that has just one truth.
func known(truth [3]pair) api.Cloth {
	var c api.Cloth
	for _, p := range truth {
		c.Tracks = append(c.Tracks, track(p.first, p.first, p.rate, p.rate))
	}
	return c
}

// sewn tries all that the quantities of three cloths can have been at first.
func sewn(a, b, whole api.Cloth, seam int) (surely, possibly bool) {
	surely, possibly = true, true
	for what := range api.ClothHeavy + 1 {
		all, some := true, false
		for _, x := range firsts(a, what) {
			for _, y := range firsts(b, what) {
				for _, z := range firsts(whole, what) {
					is := [3]bool{z == x+y-seam, x == y && y == z, z == x+y}[what]
					all, some = all && is, some || is
				}
			}
		}
		surely, possibly = surely && all, possibly && some
	}
	return surely, possibly
}

// firsts are what a quantity can have been at first.
func firsts(c api.Cloth, what api.ClothWhat) []int {
	var list []int
	for _, p := range pairs(c, what) {
		list = append(list, p.first)
	}
	slices.Sort(list)
	return slices.Compact(list)
}

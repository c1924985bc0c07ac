package tenter_test

import (
	"slices"
	"testing"

	"walkmill/api"
	"walkmill/samples"
	"walkmill/tenter"
)

// trials is how many fields a test of what follows looks at.
const trials = 300

// TestHangsOfAllTruths is for P5.2 and P5.12: at the lengths of Hangs, and at no other ones, a cloth is neither slack nor stretched too much in any truth.
func TestHangsOfAllTruths(t *testing.T) {
	d := dice{1}
	some, none := 0, 0
	for range 2 * trials {
		f := d.field(small)
		for i, s := range hangs(t, f) {
			found := false
			for long := range 2 * small.long {
				if lawful(f, i, long) != (long >= s.Low && long <= s.High) {
					t.Fatalf("%v: Hangs of %d = %v, and at %d it can hang: %v", f, i, s, long, lawful(f, i, long))
				}
				found = found || lawful(f, i, long)
			}
			if !found && s != to(1, 0) {
				t.Fatalf("%v: Hangs of %d = %v, not 1..0", f, i, s)
			}
			if found {
				some++
			} else {
				none++
			}
		}
	}
	if some == 0 || none == 0 {
		t.Errorf("not all cases are tried: %d, %d", some, none)
	}
}

// TestHangsOfGreatFields is for P5.12: at the lengths beside those of Hangs a cloth of any length is slack, or stretched too much, in some truth.
func TestHangsOfGreatFields(t *testing.T) {
	d := dice{2}
	for range trials {
		f := d.field(great)
		for i, s := range hangs(t, f) {
			if s == to(1, 0) {
				if long, found := least(f, i); found {
					t.Fatalf("%v: %d can hang at %d", f, i, long)
				}
				continue
			}
			if s.Low > s.High || !lawful(f, i, s.Low) || !lawful(f, i, s.High) || lawful(f, i, s.Low-1) || lawful(f, i, s.High+1) {
				t.Fatalf("%v: Hangs of %d = %v", f, i, s)
			}
		}
	}
}

// TestStretchedOfAllTruths is for P5.3: surely in all truths, possibly in some truth; at the lengths of Hangs in none.
func TestStretchedOfAllTruths(t *testing.T) {
	d := dice{3}
	tried := map[[2]bool]int{}
	for range trials / 10 {
		f := d.field(great)
		lengths := hangs(t, f)
		for i, c := range f.Cloths {
			for long := 1; long <= 2*api.MaxTenterLong; long += d.From(1, 9) {
				surely, possibly, e := tenter.Stretched(f, i, long)
				_, stretched, truths := faults(f, i, long)
				if surely != (stretched == truths) || possibly != (stretched > 0) || e != api.OK {
					t.Fatalf("%v: Stretched(%d, %d) = %v, %v, %d, but it is so in %d of %d", f, i, long, surely, possibly, e, stretched, truths)
				}
				if possibly && lengths[i] != to(1, 0) && long <= lengths[i].High {
					t.Fatalf("%v: Stretched(%d, %d), but Hangs = %v", f, i, long, lengths)
				}
				if long >= c.Long.Low {
					tried[[2]bool{surely, possibly}]++
				}
			}
		}
	}
	if len(tried) != 3 {
		t.Errorf("not all cases are tried: %v", tried)
	}
}

// TestFillOfAllFillings is for P5.4 and P5.13: the cloths of Fill can hang as they are listed, and it is the first of all fillings by which the most hang; never more than Bound.
func TestFillOfAllFillings(t *testing.T) {
	d := dice{4}
	tried := map[int]bool{}
	less, fewer := 0, 0
	for range trials {
		f := d.field(small)
		l, want := fill(t, f), best(f)
		if compareFills(l, want) != 0 {
			t.Fatalf("%v: Fill = %v, not %v", f, l, want)
		}
		n := bound(t, f)
		if hung(l) > n {
			t.Fatalf("%v: Fill = %v, and Bound = %d", f, l, n)
		}
		if hung(l) < n {
			less++
		}
		if hung(l) < len(f.Cloths) {
			fewer++
		}
		tried[hung(l)] = true
	}
	for n := range small.cloths + 1 {
		if !tried[n] {
			t.Errorf("no field on which %d cloths hang is tried", n)
		}
	}
	if less == 0 || fewer == 0 {
		t.Errorf("not all cases are tried: %d, %d", less, fewer)
	}
}

// crowded is a field of seven cloths, of which about so many can hang on a tenter.
func (d *dice) crowded(each int) api.TenterField {
	return set(d.field(great), func(f *api.TenterField) {
		f.Cloths = nil
		for range api.MaxTenterCloths {
			f.Cloths = append(f.Cloths, cloth(d.Span(100, 2000/each, 15), to(0, 0)))
		}
		for frame := range f.Frames {
			f.Frames[frame] = d.From(1000, 2000)
		}
		f.Stretch = d.From(50, 200)
	})
}

// TestFillOfGreatFields is for P5.4 and P5.13: so it is of great fields, also with all their cloths and tenters.
func TestFillOfGreatFields(t *testing.T) {
	d := dice{5}
	tried := map[int]bool{}
	for range trials / 8 {
		f := d.crowded(d.From(1, 4))
		l, want := fill(t, f), best(f)
		if compareFills(l, want) != 0 || hung(l) > bound(t, f) {
			t.Fatalf("%v: Fill = %v, not %v", f, l, want)
		}
		tried[hung(l)] = true
	}
	for n := 1; n <= api.MaxTenterCloths; n++ {
		if !tried[n] {
			t.Errorf("no field on which %d cloths hang is tried", n)
		}
	}
}

// TestBoundOfAllSets is for P5.5: as many cloths as the greatest of all sets has that can hang on one tenter, which is as long as all.
func TestBoundOfAllSets(t *testing.T) {
	d := dice{6}
	tried := map[int]bool{}
	for range 2 * trials {
		f := d.field(small)
		one, most, long := 0, 0, leasts(f)
		for frame := range f.Frames {
			if frame > 0 {
				one += f.Gap
			}
			one += f.Frames[frame]
		}
		for _, set := range samples.Sets(len(f.Cloths)) {
			if holds(one, f.Gap, long, set) {
				most = max(most, len(set))
			}
		}
		if n := bound(t, f); n != most {
			t.Fatalf("%v: Bound = %d, not %d", f, n, most)
		}
		tried[most] = true
	}
	for n := range small.cloths + 1 {
		if !tried[n] {
			t.Errorf("no field with the bound %d is tried", n)
		}
	}
}

// allHang reports whether some of the cloths of a field can hang all together, by all fillings.
func allHang(f api.TenterField, cloths []int) bool { return hung(best(part(f, cloths))) == len(cloths) }

// against is the first one of all sets of cloths that can be hung, but not all together, and whether there is one.
func against(f api.TenterField) (cloths []int, found bool) {
	for _, set := range samples.Sets(len(f.Cloths)) {
		no := func(i int) bool { _, found := least(f, i); return !found }
		if !slices.ContainsFunc(set, no) && !allHang(f, set) {
			return set, true
		}
	}
	return nil, false
}

// TestAgainstOfAllSets is for P5.6 and P5.13: Against is the first one of all sets of cloths that cannot hang all together; without any one of them all hang.
func TestAgainstOfAllSets(t *testing.T) {
	d := dice{7}
	tried := map[int]bool{}
	for range trials {
		f := d.field(small)
		for frame := range f.Frames {
			f.Frames[frame] *= d.From(1, 3) // on longer ones more cloths are needed
		}
		want, found := against(f)
		l, e := tenter.Against(f)
		if !slices.Equal(l, want) || (e == api.OK) != found || !found && e != api.ErrTwice {
			t.Fatalf("%v: Against = %v, %d, not %v", f, l, e, want)
		}
		for at := range l {
			if !allHang(f, slices.Delete(slices.Clone(l), at, at+1)) {
				t.Fatalf("%v: Against = %v, also without %d", f, l, l[at])
			}
		}
		tried[len(l)] = true
	}
	for n := range 5 {
		if !tried[n] {
			t.Errorf("no field with %d cloths against it is tried", n)
		}
	}
}

// TestAgainstOfGreatFields is for P5.13: of the cloths of Against, and of no fewer of them, one does not hang by Fill, also on great fields.
func TestAgainstOfGreatFields(t *testing.T) {
	d := dice{8}
	tried := map[int]bool{}
	for range trials / 3 {
		f := d.crowded(d.From(1, 6))
		l, e := tenter.Against(f)
		hangable := 0
		for i := range f.Cloths {
			if _, found := least(f, i); found {
				hangable++
			}
		}
		all := hung(fill(t, f)) == hangable
		if all != (e == api.ErrTwice) || all != (len(l) == 0) || !all && e != api.OK {
			t.Fatalf("%v: Against = %v, %d", f, l, e)
		}
		if !all && hung(fill(t, part(f, l))) != len(l)-1 {
			t.Fatalf("%v: Against = %v", f, l)
		}
		for at := range l {
			if less := slices.Delete(slices.Clone(l), at, at+1); hung(fill(t, part(f, less))) != len(less) {
				t.Fatalf("%v: Against = %v, also %v", f, l, less)
			}
		}
		tried[len(l)] = true
	}
	for _, n := range []int{0, 1, 2, 3, 4, 5} {
		if !tried[n] {
			t.Errorf("no field with %d cloths against it is tried", n)
		}
	}
}

// tight is the smallest list of lengths of all by which cloths, the first one of them first, fill so much; nil if there is none.
func tight(f api.TenterField, cloths []int, long int) []int {
	for x := range long + 1 {
		if !lawful(f, cloths[0], x) {
			continue
		}
		if len(cloths) == 1 {
			if x == long {
				return []int{x}
			}
			continue
		}
		if rest := tight(f, cloths[1:], long-x-f.Gap); rest != nil {
			return append([]int{x}, rest...)
		}
	}
	return nil
}

// TestTightOfAllLengths is for P5.7 and P5.12: the first one of all lists of lengths that fill a tenter, each of them by Hangs.
func TestTightOfAllLengths(t *testing.T) {
	d := dice{9}
	tried := map[int]int{}
	for range 4 * trials {
		f := d.field(sizes{4, 2, 1, 15, 0, 0, 1})
		var cloths []int
		for i := range f.Cloths {
			if d.From(0, 2) > 0 {
				cloths = append(cloths, i)
			}
		}
		if len(cloths) == 0 {
			continue
		}
		frame := d.From(0, len(f.Frames)-1)
		f.Frames[frame] = d.From(1, 40)
		l, e := tenter.Tight(f, frame, cloths)
		want := tight(f, cloths, f.Frames[frame])
		if !slices.Equal(l, want) || (e == api.OK) != (want != nil) || want == nil && e != api.ErrState {
			t.Fatalf("%v: Tight(%d, %v) = %v, %d, not %v", f, frame, cloths, l, e, want)
		}
		lengths := hangs(t, f)
		for place, x := range l {
			if s := lengths[cloths[place]]; x < s.Low || x > s.High {
				t.Fatalf("%v: Tight(%d, %v) = %v, but Hangs = %v", f, frame, cloths, l, lengths)
			}
		}
		tried[len(l)]++
	}
	for n := range 4 {
		if tried[n] == 0 {
			t.Errorf("no list of %d lengths is tried: %v", n, tried)
		}
	}
}

// TestDryOfAllTruths is for P5.8 and P5.14: the hours of Dry are those of all truths, from the earliest to the latest one.
func TestDryOfAllTruths(t *testing.T) {
	d := dice{10}
	same, other, never := 0, 0, 0
	for range trials {
		f, weather := d.field(small), d.weather(small)
		from := d.From(0, len(weather))
		for i, s := range dry(t, f, weather, from) {
			if want := dried(f.Cloths[i].Water, weather, from); s != want {
				t.Fatalf("%v: with %v from %d the cloth %d is dry at %v, not %v", f, weather, from, i, s, want)
			}
			switch {
			case s.High > len(weather):
				never++
			case s.Low == s.High:
				same++
			default:
				other++
			}
		}
	}
	if same == 0 || other == 0 || never == 0 {
		t.Errorf("not all cases are tried: %d, %d, %d", same, other, never)
	}
}

// TestDryInATruth is for P5.14: in a truth of a great field each cloth is dry at an hour of its span; with wetter cloths, or less that dries, none is dry earlier.
func TestDryInATruth(t *testing.T) {
	d := dice{11}
	later := 0
	for range 2 * trials {
		f, weather := d.field(great), d.weather(great)
		from := d.From(0, len(weather)/2)
		spans := dry(t, f, weather, from)
		var dries []int
		for _, s := range weather {
			dries = append(dries, d.From(s.Low, s.High))
		}
		for i, c := range f.Cloths {
			water := d.From(c.Water.Low, c.Water.High)
			if hour := dryAt(water, from, dries); hour < spans[i].Low || hour > spans[i].High {
				t.Fatalf("%v: with %d of water in %d, and %v, it is dry at %d, but Dry(%v, %d) = %v", f, water, i, dries, hour, weather, from, spans)
			}
		}
		wetter := set(f, func(f *api.TenterField) {
			for i := range f.Cloths {
				s := &f.Cloths[i].Water
				s.High = d.From(s.High, api.MaxTenterWater)
				s.Low = d.From(s.Low, s.High)
			}
		})
		var duller []api.Span
		for _, s := range weather {
			high := d.From(0, s.High)
			duller = append(duller, to(d.From(0, min(s.Low, high)), high))
		}
		for _, others := range [][]api.Span{dry(t, wetter, weather, from), dry(t, f, duller, from), dry(t, wetter, duller, from)} {
			for i, s := range others {
				if s.Low < spans[i].Low || s.High < spans[i].High {
					t.Fatalf("%v: Dry(%v, %d) = %v; of %v, or with %v, %v", f, weather, from, spans, wetter, duller, others)
				}
				if s != spans[i] {
					later++
				}
			}
		}
	}
	if later == 0 {
		t.Error("nothing is dry later")
	}
}

// TestNeedOfAllTruths is for P5.9 and P5.15: Need is the first cloth that in some truth is not dry at the rain, the first one whose Dry ends later.
func TestNeedOfAllTruths(t *testing.T) {
	d := dice{12}
	first, later, none := 0, 0, 0
	for range 2 * trials {
		f, weather := d.field(small), d.weather(small)
		rain := d.From(0, len(weather))
		want := slices.IndexFunc(f.Cloths, func(c api.TenterCloth) bool { return !inTime(c, weather, 0, rain) })
		ends := slices.IndexFunc(dry(t, f, weather, 0), func(s api.Span) bool { return s.High > rain })
		i, e := tenter.Need(f, weather, rain)
		if want != ends || want >= 0 && (i != want || e != api.OK) || want < 0 && (i != 0 || e != api.ErrTwice) {
			t.Fatalf("%v: Need(%v, %d) = %d, %d, not %d", f, weather, rain, i, e, want)
		}
		switch {
		case want < 0:
			none++
		case want == 0:
			first++
		default:
			later++
		}
	}
	if first == 0 || later == 0 || none == 0 {
		t.Errorf("not all cases are tried: %d, %d, %d", first, later, none)
	}
}

// TestLateOfAllTruths is for P5.10 and P5.14: a cloth that is hung at the hour of Late, or before, is dry in time in all truths; one that is hung later is not so.
func TestLateOfAllTruths(t *testing.T) {
	d := dice{13}
	tried := map[int]bool{}
	for range trials {
		f, weather := d.field(small), d.weather(small)
		rain := d.From(0, len(weather))
		for i, c := range f.Cloths {
			late, e := tenter.Late(f, weather, i, rain)
			if e == api.ErrState && late == 0 {
				late = -1
			} else if e != api.OK || late < 0 || late > rain {
				t.Fatalf("%v: Late(%v, %d, %d) = %d, %d", f, weather, i, rain, late, e)
			}
			for hour := range len(weather) + 1 {
				if inTime(c, weather, hour, rain) != (hour <= late) {
					t.Fatalf("%v: Late(%v, %d, %d) = %d, %d, and hung at %d it is dry in time: %v", f, weather, i, rain, late, e, hour, hour > late)
				}
			}
			tried[late] = true
		}
	}
	for late := -1; late <= small.hours; late++ {
		if !tried[late] {
			t.Errorf("the hour %d is not tried", late)
		}
	}
}

// TestLateOfGreatFields is for P5.14: so it is of great fields, where Dry says when a cloth is dry.
func TestLateOfGreatFields(t *testing.T) {
	d := dice{14}
	for range trials {
		f, weather := d.field(great), d.weather(great)
		rain := d.From(0, len(weather))
		for i := range f.Cloths {
			late, e := tenter.Late(f, weather, i, rain)
			if e == api.ErrState {
				late = -1
			}
			for hour := range rain + 1 {
				if s := dry(t, f, weather, hour)[i]; (s.High <= rain) != (hour <= late) {
					t.Fatalf("%v: Late(%v, %d, %d) = %d, %d, but from %d it is dry at %v", f, weather, i, rain, late, e, hour, s)
				}
			}
		}
	}
}

// orderOf is the first one of all orders of cloths, by which each one is hung and dry in time, and whether there is one; lates are the hours at which they are hung at the latest, by their numbers.
func orderOf(lates []int) (order []int, found bool) {
	for _, order := range samples.Orders(len(lates)) {
		hour := 0
		for hour < len(order) && hour <= lates[order[hour]] {
			hour++
		}
		if hour == len(order) {
			return order, true
		}
	}
	return nil, false
}

// latest is the latest hour at which a cloth is hung so that it is dry in time, by all truths; -1 if there is none.
func latest(c api.TenterCloth, weather []api.Span, rain int) int {
	hour := rain
	for hour >= 0 && !inTime(c, weather, hour, rain) {
		hour--
	}
	return hour
}

// TestOrderOfAllOrders is for P5.11 and P5.15: Order is the first one of all orders by which each cloth is hung and dry in time, in all truths.
func TestOrderOfAllOrders(t *testing.T) {
	d := dice{15}
	tried := map[int]bool{}
	none, turned := 0, 0
	for range 2 * trials {
		f, weather := d.field(sizes{5, 1, 5, 1, 3, 3, 1}), d.weather(sizes{hours: 5, dries: 3, doubt: 1})
		rain := d.From(0, len(weather))
		var lates []int
		for _, c := range f.Cloths {
			lates = append(lates, latest(c, weather, rain))
		}
		want, found := orderOf(lates)
		l, e := tenter.Order(f, weather, rain)
		if !slices.Equal(l, want) || (e == api.OK) != found || !found && e != api.ErrState {
			t.Fatalf("%v: Order(%v, %d) = %v, %d, not %v", f, weather, rain, l, e, want)
		}
		for hour, i := range l {
			if late, e := tenter.Late(f, weather, i, rain); hour > late || e != api.OK {
				t.Fatalf("%v: Order(%v, %d) = %v, but Late of %d = %d, %d", f, weather, rain, l, i, late, e)
			}
		}
		if !found {
			none++
		} else if !slices.IsSorted(l) {
			turned++
		}
		tried[len(l)] = true
	}
	for n := range 6 {
		if !tried[n] {
			t.Errorf("no order of %d cloths is tried", n)
		}
	}
	if none == 0 || turned == 0 {
		t.Errorf("not all cases are tried: %d, %d", none, turned)
	}
}

// TestOrderOfGreatFields is for P5.11 and P5.15: so it is of seven cloths, of which Late says when they are hung at the latest.
func TestOrderOfGreatFields(t *testing.T) {
	d := dice{16}
	some, none := 0, 0
	for range trials / 4 {
		f, weather := d.crowded(1), steady(d.From(8, 24), 20)
		rain := d.From(7, len(weather))
		for i := range f.Cloths {
			f.Cloths[i].Water = d.Span(0, 20*rain, 0)
		}
		var lates []int
		for i := range f.Cloths {
			late, e := tenter.Late(f, weather, i, rain)
			if e == api.ErrState {
				late = -1
			}
			lates = append(lates, late)
		}
		want, found := orderOf(lates)
		l, e := tenter.Order(f, weather, rain)
		if !slices.Equal(l, want) || (e == api.OK) != found {
			t.Fatalf("%v: Order(%v, %d) = %v, %d, not %v", f, weather, rain, l, e, want)
		}
		if found {
			some++
		} else {
			none++
		}
	}
	if some == 0 || none == 0 {
		t.Errorf("not all cases are tried: %d, %d", some, none)
	}
}

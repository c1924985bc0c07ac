package tenter_test

import (
	"math"
	"slices"
	"testing"

	"walkmill/api"
	"walkmill/samples"
	"walkmill/tenter"
)

// answer is a result of any function, for tests that look at errors: whether each other result is its zero value, and the error.
type answer struct {
	name  string
	empty bool
	e     api.Errno
}

// weathered asks all functions with weather about a field, with a cloth that is not valid.
func weathered(f api.TenterField, weather []api.Span, hour int) []answer {
	s, e := tenter.Dry(f, weather, hour)
	list := []answer{{"Dry", len(s) == 0, e}}
	n, e := tenter.Need(f, weather, hour)
	list = append(list, answer{"Need", n == 0, e})
	n, e = tenter.Late(f, weather, -1, hour)
	list = append(list, answer{"Late", n == 0, e})
	l, e := tenter.Order(f, weather, hour)
	return append(list, answer{"Order", len(l) == 0, e})
}

// answers asks all functions, but Check, about a field, with other arguments that are not valid.
func answers(f api.TenterField) []answer {
	s, e := tenter.Hangs(f)
	list := append(weathered(f, nil, -1), answer{"Hangs", len(s) == 0, e})
	surely, possibly, e := tenter.Stretched(f, -1, 0)
	list = append(list, answer{"Stretched", !surely && !possibly, e})
	fill, e := tenter.Fill(f)
	list = append(list, answer{"Fill", len(fill) == 0, e})
	n, e := tenter.Bound(f)
	list = append(list, answer{"Bound", n == 0, e})
	l, e := tenter.Against(f)
	list = append(list, answer{"Against", len(l) == 0, e})
	l, e = tenter.Tight(f, -1, nil)
	return append(list, answer{"Tight", len(l) == 0, e})
}

// check fails unless all functions have the error of Check of some fields first.
func check(t *testing.T, want api.Errno, list ...api.TenterField) {
	t.Helper()
	for _, f := range list {
		if e := tenter.Check(f); e != want {
			t.Errorf("%v: Check = %d, not %d", f, e, want)
		}
		if want == api.OK {
			continue
		}
		for _, a := range answers(f) {
			if a.e != want || !a.empty {
				t.Errorf("%v: %s = %d, empty %v, not %d", f, a.name, a.e, a.empty, want)
			}
		}
	}
}

// TestCheckNumberOfCloths is for P5.1: there may be no cloths, and seven, but not eight.
func TestCheckNumberOfCloths(t *testing.T) {
	check(t, api.OK, crowd(0), crowd(1), crowd(7))
	check(t, api.ErrLong, crowd(8), crowd(1000))
}

// TestCheckNumberOfTenters is for P5.1: there are from one to three tenters.
func TestCheckNumberOfTenters(t *testing.T) {
	check(t, api.OK, long([]int{1}, 0, 0), long([]int{1, 2}, 0, 0, 1), long([]int{1, 2, 3}, 0, 0, 1))
	check(t, api.ErrForm, api.TenterField{}, long(nil, 0, 0, 1), long([]int{}, 0, 0), long([]int{1, 2, 3, 4}, 0, 0), long(make([]int, 1000), 0, 0))
}

// TestCheckField is for P5.1: each limit of cloths, tenters, the gap and the stretch can be reached, and is exceeded by one.
func TestCheckField(t *testing.T) {
	alone := func(c api.TenterCloth) api.TenterField { return field([]int{1}, 0, 0, c) }
	check(t, api.OK,
		alone(cloth(to(1, 1), to(0, 0))), alone(cloth(to(1, 2000), to(0, 500))), alone(cloth(to(2000, 2000), to(500, 500))),
		long([]int{1, 2000, 1}, 0, 0), long([]int{2000}, 50, 200), long([]int{1}, 0, 200), long([]int{1}, 50, 0))
	check(t, api.ErrArg,
		alone(cloth(to(0, 0), to(0, 0))), alone(cloth(to(0, 1), to(0, 0))), alone(cloth(to(2000, 2001), to(0, 0))), alone(cloth(to(2001, 2001), to(0, 0))),
		alone(cloth(to(5, 4), to(0, 0))), alone(cloth(to(1, 1), to(-1, 0))), alone(cloth(to(1, 1), to(-1, -1))), alone(cloth(to(1, 1), to(500, 501))),
		alone(cloth(to(1, 1), to(501, 501))), alone(cloth(to(1, 1), to(3, 2))), alone(api.TenterCloth{}),
		long([]int{0}, 0, 0), long([]int{2001}, 0, 0), long([]int{1, 1, 0}, 0, 0), long([]int{1, 2001, 1}, 0, 0), long([]int{-1}, 0, 0),
		long([]int{1}, -1, 0), long([]int{1}, 51, 0), long([]int{1}, 0, -1), long([]int{1}, 0, 201),
		alone(cloth(to(math.MinInt, math.MaxInt), to(0, 0))), alone(cloth(to(math.MaxInt, math.MinInt), to(0, 0))),
		alone(cloth(to(1, math.MaxInt), to(0, 0))), alone(cloth(to(1, 1), to(0, math.MaxInt))), alone(cloth(to(1, 1), to(math.MinInt, 0))),
		long([]int{math.MinInt}, 0, 0), long([]int{math.MaxInt}, 0, 0), long([]int{1}, math.MinInt, 0), long([]int{1}, math.MaxInt, 0),
		long([]int{1}, 0, math.MinInt), long([]int{1}, 0, math.MaxInt),
		set(example(), func(f *api.TenterField) { f.Cloths[2].Water.Low = 61 }), set(example(), func(f *api.TenterField) { f.Frames[1] = 0 }))
}

// TestCheckOrder is for P5.1 and R1: how many cloths there are comes before how many tenters, and this before what they are.
func TestCheckOrder(t *testing.T) {
	bad := set(crowd(8), func(f *api.TenterField) { f.Cloths[0].Long.Low = 0 })
	check(t, api.ErrLong, bad)
	bad.Frames = nil
	check(t, api.ErrLong, bad)
	bad.Cloths = bad.Cloths[:7]
	check(t, api.ErrForm, bad)
	bad.Frames = []int{0, 0, 0, 0}
	check(t, api.ErrForm, bad)
	bad.Frames = bad.Frames[:3]
	check(t, api.ErrArg, bad)
}

// weatherErrors fails unless the functions with weather have an error, also if there are no cloths; Late may have another one.
func weatherErrors(t *testing.T, weather []api.Span, hour int, want, late api.Errno) {
	t.Helper()
	for _, f := range []api.TenterField{example(), crowd(0)} {
		for _, a := range weathered(f, weather, hour) {
			want := want
			if a.name == "Late" {
				want = late
			}
			if a.e != want || want != api.OK && !a.empty {
				t.Errorf("%s with %v at %d = %d, empty %v, not %d", a.name, weather, hour, a.e, a.empty, want)
			}
		}
	}
}

// TestNumberOfHours is for P5.1 and R1: there are from one to 24 hours; how many come before what they are, and before the hour from, or of the rain.
func TestNumberOfHours(t *testing.T) {
	for _, weather := range [][]api.Span{nil, {}, steady(25, 0), steady(25, 101), steady(1000, 0)} {
		for _, hour := range []int{0, 1, -1, 25, 26} {
			weatherErrors(t, weather, hour, api.ErrFull, api.ErrFull)
		}
	}
	f := wet(to(100, 100))
	for _, hours := range []int{1, 24} {
		if l := dry(t, f, steady(hours, 100), 0); l[0] != to(1, 1) {
			t.Errorf("of %d hours it is dry at %v", hours, l)
		}
	}
}

// TestWeather is for P5.1: each limit of what dries in an hour can be reached, and is exceeded by one.
func TestWeather(t *testing.T) {
	for _, s := range []api.Span{
		to(-1, 0), to(-1, -1), to(100, 101), to(101, 101), to(2, 1), to(math.MinInt, math.MaxInt), to(math.MaxInt, math.MinInt), to(0, math.MaxInt), to(math.MinInt, 0),
	} {
		for at := range 4 {
			weather := fair()
			weather[at] = s
			weatherErrors(t, weather, 0, api.ErrRange, api.ErrRange)
			weatherErrors(t, weather, 5, api.ErrRange, api.ErrRange)
		}
	}
	for _, s := range []api.Span{to(0, 0), to(0, 100), to(100, 100)} {
		dry(t, example(), []api.Span{s}, 0)
	}
}

// TestHours is for P5.1 and R1: the hour from, or of the rain, is from 0 to the number of hours; a wrong hour comes before a wrong cloth.
func TestHours(t *testing.T) {
	for _, hour := range []int{-1, 5, math.MinInt, math.MaxInt} {
		weatherErrors(t, fair(), hour, api.ErrRange, api.ErrRange)
	}
	for _, hour := range []int{0, 4} {
		for _, a := range weathered(crowd(7), fair(), hour) {
			want := map[string]api.Errno{"Need": api.ErrTwice, "Late": api.ErrNone, "Order": api.ErrState}[a.name] // too few hours for seven cloths
			if a.e != want {
				t.Errorf("%s at %d = %d, not %d", a.name, hour, a.e, want)
			}
		}
	}
}

// TestHangs is for P5.2: from the greatest own length to what the statute permits of the least one, rounded down.
func TestHangs(t *testing.T) {
	for name, x := range map[string]struct {
		own     api.Span
		stretch int
		want    api.Span
	}{
		"no stretch":         {to(7, 7), 0, to(7, 7)},
		"no stretch, unsure": {to(7, 8), 0, to(1, 0)},
		"the least":          {to(1, 1), 200, to(1, 1)},
		"five":               {to(5, 5), 200, to(5, 6)},
		"just not six":       {to(5, 5), 199, to(5, 5)},
		"unsure":             {to(200, 210), 50, to(210, 210)},
		"too unsure":         {to(200, 211), 50, to(1, 0)},
		"rounded down":       {to(199, 208), 50, to(208, 208)},
		"rounded too far":    {to(199, 209), 50, to(1, 0)},
		"the greatest":       {to(2000, 2000), 200, to(2000, 2400)},
		"by one thousandth":  {to(1000, 1001), 1, to(1001, 1001)},
		"just below it":      {to(999, 1000), 1, to(1, 0)},
		"anything":           {to(1, 2000), 200, to(1, 0)},
	} {
		if l := hangs(t, field([]int{1}, 0, x.stretch, cloth(x.own, to(0, 0)))); l[0] != x.want {
			t.Errorf("%s: Hangs = %v, not %v", name, l[0], x.want)
		}
	}
	if l := hangs(t, crowd(0)); len(l) != 0 {
		t.Errorf("Hangs of none = %v", l)
	}
	if l := hangs(t, long([]int{1}, 50, 100, 10, 2000, 9)); !slices.Equal(l, []api.Span{to(10, 11), to(2000, 2200), to(9, 9)}) {
		t.Errorf("Hangs = %v", l)
	}
}

// TestStretched is for P5.3: surely if it is too much for the greatest own length, possibly if it is for the least one.
func TestStretched(t *testing.T) {
	for _, x := range []struct {
		cloth, long      int
		surely, possibly bool
	}{
		{0, 210, false, false}, {0, 211, false, true}, {0, 214, false, true}, {0, 215, true, true}, {0, 203, false, false}, {0, 1, false, false}, {0, 4000, true, true},
		{1, 315, false, false}, {1, 316, false, true}, {1, 325, false, true}, {1, 326, true, true},
		{2, 105, false, false}, {2, 106, true, true}, {2, 99, false, false},
	} {
		if surely, possibly, e := tenter.Stretched(example(), x.cloth, x.long); surely != x.surely || possibly != x.possibly || e != api.OK {
			t.Errorf("Stretched(%d, %d) = %v, %v, %d", x.cloth, x.long, surely, possibly, e)
		}
	}
}

// TestStretchedErrors is for P5.3 and R1: cloth is the number of a cloth, and then long is from 1 to 2 * MaxTenterLong.
func TestStretchedErrors(t *testing.T) {
	fails := func(f api.TenterField, cloth, long int, want api.Errno) {
		t.Helper()
		if surely, possibly, e := tenter.Stretched(f, cloth, long); surely || possibly || e != want {
			t.Errorf("Stretched(%d, %d) = %v, %v, %d, not %d", cloth, long, surely, possibly, e, want)
		}
	}
	for _, long := range []int{0, -1, 4001, math.MinInt, math.MaxInt} {
		fails(example(), 0, long, api.ErrRange)
		fails(example(), 2, long, api.ErrRange)
		for _, cloth := range []int{-1, 3, math.MinInt, math.MaxInt} {
			fails(example(), cloth, long, api.ErrNone)
			fails(example(), cloth, 200, api.ErrNone)
		}
		fails(crowd(0), 0, long, api.ErrNone)
	}
	fails(crowd(0), 0, 1, api.ErrNone)
}

// TestFill is for P5.4: the most cloths, at their least lengths with the gaps between them; the smallest list of lists of several.
func TestFill(t *testing.T) {
	for name, x := range map[string]struct {
		f    api.TenterField
		want [][]int
	}{
		"no cloths":           {long([]int{5, 5}, 0, 0), [][]int{nil, nil}},
		"one":                 {long([]int{5}, 0, 0, 5), [][]int{{0}}},
		"too long":            {long([]int{5}, 0, 200, 6), [][]int{nil}},
		"on the last tenter":  {long([]int{5, 5, 5}, 0, 0, 5), [][]int{nil, nil, {0}}},
		"on the only one":     {long([]int{5, 4, 4}, 0, 0, 5), [][]int{{0}, nil, nil}},
		"just together":       {long([]int{21}, 3, 0, 5, 6, 4), [][]int{{0, 1, 2}}},
		"one too short":       {long([]int{20}, 3, 0, 5, 6, 4), [][]int{{0, 1}}},
		"without gaps":        {long([]int{15}, 0, 0, 5, 6, 4), [][]int{{0, 1, 2}}},
		"the most":            {long([]int{10}, 0, 0, 10, 5, 5), [][]int{{1, 2}}},
		"the smallest":        {long([]int{10}, 0, 0, 5, 5, 5, 5), [][]int{{0, 1}}},
		"compared by tenters": {long([]int{10, 10}, 0, 0, 5, 5, 5, 5), [][]int{{0, 1}, {2, 3}}},
		"a beginning":         {long([]int{10, 15}, 0, 0, 5, 5, 5, 5), [][]int{{0}, {1, 2, 3}}},
		"none is smaller":     {long([]int{10, 20}, 0, 0, 5, 5, 5, 5), [][]int{nil, {0, 1, 2, 3}}},
		"the smallest first":  {long([]int{6, 6}, 0, 0, 4, 3, 6, 3), [][]int{{0}, {1, 3}}},
		"the most first":      {long([]int{6, 4}, 0, 0, 4, 3, 6, 3), [][]int{{1, 3}, {0}}},
		"not by any tenter":   {field([]int{9, 9, 9}, 0, 0, cloth(to(1, 2), to(0, 0)), cloth(to(1, 1), to(0, 0))), [][]int{nil, nil, {1}}},
		"at the least length": {field([]int{42}, 2, 200, cloth(to(18, 20), to(0, 0)), cloth(to(20, 20), to(0, 0))), [][]int{{0, 1}}},
		"seven on three":      {long([]int{6, 6, 4}, 0, 0, 4, 3, 3, 2, 2, 1, 1), [][]int{{0, 3}, {1, 2}, {4, 5, 6}}},
		"all seven":           {long([]int{2000, 1, 1}, 50, 0, 100, 100, 100, 100, 100, 100, 100), [][]int{{0, 1, 2, 3, 4, 5, 6}, nil, nil}},
	} {
		if l := fill(t, x.f); compareFills(l, x.want) != 0 {
			t.Errorf("%s: Fill = %v, not %v", name, l, x.want)
		}
	}
}

// TestBound is for P5.5: one tenter as long as all, with the gaps between them.
func TestBound(t *testing.T) {
	for name, x := range map[string]struct {
		f    api.TenterField
		want int
	}{
		"no cloths":         {long([]int{5, 5}, 0, 0), 0},
		"one tenter":        {long([]int{10}, 0, 0, 10, 5, 5), 2},
		"one tenter, a gap": {long([]int{10}, 1, 0, 10, 5, 5), 1},
		"one long cloth":    {long([]int{5, 5}, 3, 0, 13), 1},
		"just too long":     {long([]int{5, 5}, 3, 0, 14), 0},
		"with the gaps":     {long([]int{5, 5, 5}, 3, 0, 5, 5, 5), 3},
		"just not so":       {long([]int{5, 5, 5}, 3, 0, 5, 6, 5), 2},
		"the short ones":    {long([]int{5, 5, 5}, 3, 0, 20, 1, 15, 2), 2},
		"not by any tenter": {field([]int{9, 9, 9}, 0, 0, cloth(to(1, 2), to(0, 0)), cloth(to(1, 1), to(0, 0))), 1},
		"more than Fill":    {long([]int{5, 5, 5}, 0, 0, 6, 6), 2},
		"the greatest":      {long([]int{2000, 2000, 2000}, 50, 0, 800, 800, 800, 800, 800, 800, 1000), 7},
		"not quite":         {long([]int{2000, 2000, 2000}, 50, 0, 800, 800, 800, 800, 800, 900, 901), 6},
	} {
		if n := bound(t, x.f); n != x.want {
			t.Errorf("%s: Bound = %d, not %d", name, n, x.want)
		}
	}
}

// TestAgainst is for P5.6: the fewest cloths, the smallest list of several; those that cannot be hung at any length do not count.
func TestAgainst(t *testing.T) {
	for name, x := range map[string]struct {
		f    api.TenterField
		want []int
		e    api.Errno
	}{
		"no cloths":         {long([]int{5}, 0, 0), nil, api.ErrTwice},
		"one":               {long([]int{5}, 0, 0, 5), nil, api.ErrTwice},
		"too long":          {long([]int{5}, 0, 0, 5, 6, 7), []int{1}, api.OK},
		"too long for all":  {long([]int{5, 4, 3}, 0, 0, 1, 1, 6), []int{2}, api.OK},
		"two":               {long([]int{9}, 0, 0, 3, 4, 6, 5), []int{1, 2}, api.OK},
		"with the gap":      {long([]int{9}, 1, 0, 3, 4, 5, 5), []int{1, 2}, api.OK},
		"three":             {long([]int{9}, 0, 0, 3, 4, 5, 1), []int{0, 1, 2}, api.OK},
		"the smallest":      {long([]int{9, 9}, 0, 0, 1, 5, 5, 1, 5, 5), []int{1, 2, 4}, api.OK},
		"all but the first": {long([]int{4, 4, 4}, 0, 0, 1, 2, 2, 2, 2, 2, 3), []int{1, 2, 3, 4, 5, 6}, api.OK},
		"all seven":         {long([]int{1999}, 0, 0, 285, 285, 285, 285, 285, 285, 290), []int{0, 1, 2, 3, 4, 5, 6}, api.OK},
		"all seven hang":    {long([]int{2000}, 0, 0, 285, 285, 285, 285, 285, 285, 290), nil, api.ErrTwice},
		"by no length":      {field([]int{9}, 0, 0, cloth(to(1, 2), to(0, 0)), cloth(to(9, 9), to(0, 0))), nil, api.ErrTwice},
		"without it":        {field([]int{9}, 0, 0, cloth(to(1, 2), to(0, 0)), cloth(to(5, 5), to(0, 0)), cloth(to(5, 5), to(0, 0))), []int{1, 2}, api.OK},
	} {
		if l, e := tenter.Against(x.f); !slices.Equal(l, x.want) || e != x.e {
			t.Errorf("%s: Against = %v, %d, not %v, %d", name, l, e, x.want, x.e)
		}
	}
}

// TestTight is for P5.7: what is left of the tenter is for the last cloths.
func TestTight(t *testing.T) {
	three := func(frame int) api.TenterField { return long([]int{2000, frame}, 5, 100, 100, 200, 50, 2000) }
	for name, x := range map[string]struct {
		f      api.TenterField
		frame  int
		cloths []int
		want   []int
		e      api.Errno
	}{
		"one":              {three(105), 1, []int{0}, []int{105}, api.OK},
		"its least length": {three(100), 1, []int{0}, []int{100}, api.OK},
		"its greatest one": {three(110), 1, []int{0}, []int{110}, api.OK},
		"too short":        {three(99), 1, []int{0}, nil, api.ErrState},
		"too long":         {three(111), 1, []int{0}, nil, api.ErrState},
		"the least":        {three(360), 1, []int{0, 1, 2}, []int{100, 200, 50}, api.OK},
		"too little":       {three(359), 1, []int{0, 1, 2}, nil, api.ErrState},
		"the last":         {three(363), 1, []int{0, 1, 2}, []int{100, 200, 53}, api.OK},
		"the last, filled": {three(365), 1, []int{0, 1, 2}, []int{100, 200, 55}, api.OK},
		"the last two":     {three(366), 1, []int{0, 1, 2}, []int{100, 201, 55}, api.OK},
		"all":              {three(386), 1, []int{0, 1, 2}, []int{101, 220, 55}, api.OK},
		"the greatest":     {three(395), 1, []int{0, 1, 2}, []int{110, 220, 55}, api.OK},
		"too much":         {three(396), 1, []int{0, 1, 2}, nil, api.ErrState},
		"some":             {three(160), 1, []int{0, 2}, []int{100, 55}, api.OK},
		"the other tenter": {three(1), 0, []int{3}, []int{2000}, api.OK},
		"by no length":     {field([]int{11}, 0, 0, cloth(to(1, 2), to(0, 0)), cloth(to(9, 9), to(0, 0))), 0, []int{0, 1}, nil, api.ErrState},
		"by no length too": {field([]int{1}, 0, 0, cloth(to(1, 2), to(0, 0))), 0, []int{0}, nil, api.ErrState},
		"seven":            {long([]int{1880}, 50, 200, 200, 200, 200, 200, 200, 200, 200), 0, samples.UpTo(7), []int{200, 200, 220, 240, 240, 240, 240}, api.OK},
	} {
		if l, e := tenter.Tight(x.f, x.frame, x.cloths); !slices.Equal(l, x.want) || e != x.e {
			t.Errorf("%s: Tight = %v, %d, not %v, %d", name, l, e, x.want, x.e)
		}
	}
}

// TestTightErrors is for P5.7: frame is the number of a tenter, and cloths are numbers of cloths that ascend strictly, one at least.
func TestTightErrors(t *testing.T) {
	for _, x := range []struct {
		frame  int
		cloths []int
	}{
		{-1, []int{0}}, {2, []int{0}}, {math.MinInt, []int{0}}, {math.MaxInt, []int{0}},
		{0, nil}, {0, []int{}}, {0, []int{-1}}, {0, []int{3}}, {0, []int{0, 0}}, {0, []int{1, 0}}, {0, []int{0, 2, 1}}, {0, []int{0, 1, 1}},
		{0, []int{0, 1, 2, 3}}, {0, []int{-1, 0}}, {0, []int{math.MinInt, 0}}, {0, []int{0, math.MaxInt}}, {0, []int{math.MaxInt, 0}}, {0, samples.UpTo(1000)},
		{0, []int{-2, -1}}, {1, []int{2, 2}},
	} {
		if l, e := tenter.Tight(example(), x.frame, x.cloths); len(l) != 0 || e != api.ErrNone {
			t.Errorf("Tight(%d, %v) = %v, %d", x.frame, x.cloths, l, e)
		}
	}
	if l, e := tenter.Tight(crowd(0), 0, []int{0}); len(l) != 0 || e != api.ErrNone {
		t.Errorf("Tight without cloths = %v, %d", l, e)
	}
}

// TestDry is for P5.8: a cloth is dry at the first hour by which its water has dried, one without water at once.
func TestDry(t *testing.T) {
	for name, x := range map[string]struct {
		water   api.Span
		weather []api.Span
		from    int
		want    api.Span
	}{
		"no water":           {to(0, 0), fair(), 0, to(0, 0)},
		"no water, later":    {to(0, 0), fair(), 3, to(3, 3)},
		"no water, at last":  {to(0, 0), fair(), 4, to(4, 4)},
		"a drop, at last":    {to(1, 1), fair(), 4, to(5, 5)},
		"perhaps a drop":     {to(0, 1), fair(), 4, to(4, 5)},
		"just in one hour":   {to(10, 10), fair(), 0, to(1, 1)},
		"perhaps in one":     {to(11, 11), fair(), 0, to(1, 2)},
		"just in all":        {to(45, 45), fair(), 0, to(3, 3)},
		"perhaps not":        {to(46, 46), fair(), 0, to(3, 5)},
		"the most":           {to(80, 80), fair(), 0, to(4, 5)},
		"too much":           {to(81, 81), fair(), 0, to(5, 5)},
		"perhaps dry":        {to(0, 500), fair(), 0, to(0, 5)},
		"hung later":         {to(20, 20), fair(), 2, to(3, 3)},
		"hung later, unsure": {to(21, 21), fair(), 2, to(3, 5)},
		"a dull hour":        {to(10, 10), []api.Span{to(10, 10), to(0, 0), to(0, 10)}, 1, to(3, 4)},
		"it dries no more":   {to(10, 11), []api.Span{to(10, 10), to(0, 0), to(0, 0)}, 0, to(1, 4)},
		"the longest":        {to(500, 500), steady(24, 21), 0, to(24, 24)},
		"not quite":          {to(500, 500), steady(24, 20), 0, to(25, 25)},
		"the shortest":       {to(100, 100), steady(1, 100), 0, to(1, 1)},
	} {
		if l := dry(t, wet(x.water), x.weather, x.from); l[0] != x.want {
			t.Errorf("%s: Dry = %v, not %v", name, l[0], x.want)
		}
	}
	if l := dry(t, crowd(0), fair(), 0); len(l) != 0 {
		t.Errorf("Dry of none = %v", l)
	}
}

// TestNeed is for P5.9: the first cloth that possibly is not dry at the hour of the rain.
func TestNeed(t *testing.T) {
	f := wet(to(10, 10), to(0, 25), to(0, 0), to(46, 46), to(500, 500))
	for rain, want := range []int{0, 1, 3, 3, 3} {
		samples.Value(t, "Need", want, api.OK)(tenter.Need(f, fair(), rain))
	}
	for name, f := range map[string]api.TenterField{
		"no cloths": crowd(0), "no water": wet(to(0, 0), to(0, 0)),
	} {
		for rain := range 5 {
			if n, e := tenter.Need(f, fair(), rain); n != 0 || e != api.ErrTwice {
				t.Errorf("%s: Need(%d) = %d, %d", name, rain, n, e)
			}
		}
	}
	surely := wet(to(10, 10), to(0, 25), to(45, 45))
	if n, e := tenter.Need(surely, fair(), 3); n != 0 || e != api.ErrTwice {
		t.Errorf("Need = %d, %d", n, e)
	}
	samples.Value(t, "Need an hour sooner", 2, api.OK)(tenter.Need(surely, fair(), 2))
	unhung := field([]int{1}, 0, 0, cloth(to(1, 2000), to(1, 1)))
	samples.Value(t, "Need of what cannot be hung", 0, api.OK)(tenter.Need(unhung, fair(), 0))
}

// TestLate is for P5.10: the latest hour, up to that of the rain.
func TestLate(t *testing.T) {
	for name, x := range map[string]struct {
		water   api.Span
		weather []api.Span
		rain    int
		want    int
		e       api.Errno
	}{
		"no water":         {to(0, 0), fair(), 4, 4, api.OK},
		"no water, sooner": {to(0, 0), fair(), 0, 0, api.OK},
		"perhaps a drop":   {to(0, 1), fair(), 4, 2, api.OK},
		"in one hour":      {to(20, 20), fair(), 3, 2, api.OK},
		"not in one hour":  {to(20, 21), fair(), 3, 1, api.OK},
		"from the first":   {to(36, 36), fair(), 3, 0, api.OK},
		"just so":          {to(45, 45), fair(), 3, 0, api.OK},
		"never":            {to(46, 46), fair(), 4, 0, api.ErrState},
		"not in time":      {to(26, 26), fair(), 2, 0, api.ErrState},
		"at the rain":      {to(1, 1), fair(), 0, 0, api.ErrState},
		"a dull hour":      {to(5, 5), []api.Span{to(5, 9), to(0, 9), to(0, 9)}, 3, 0, api.OK},
		"the longest":      {to(0, 500), steady(24, 21), 24, 0, api.OK},
		"the shortest":     {to(100, 100), steady(24, 100), 24, 23, api.OK},
	} {
		if hour, e := tenter.Late(wet(to(500, 500), x.water), x.weather, 1, x.rain); hour != x.want || e != x.e {
			t.Errorf("%s: Late = %d, %d, not %d, %d", name, hour, e, x.want, x.e)
		}
	}
	for _, i := range []int{-1, 3, math.MinInt, math.MaxInt} {
		if hour, e := tenter.Late(example(), fair(), i, 0); hour != 0 || e != api.ErrNone {
			t.Errorf("Late of %d = %d, %d", i, hour, e)
		}
	}
	if hour, e := tenter.Late(crowd(0), fair(), 0, 4); hour != 0 || e != api.ErrNone {
		t.Errorf("Late without cloths = %d, %d", hour, e)
	}
}

// TestOrder is for P5.11: one cloth in each hour, no later than at the rain, and each one dry then; the smallest list.
func TestOrder(t *testing.T) {
	one, two, three := to(20, 20), to(21, 21), to(36, 36) // with rain at 3, to be hung at the latest at 2, 1 and 0
	for name, x := range map[string]struct {
		f    api.TenterField
		rain int
		want []int
		e    api.Errno
	}{
		"no cloths":         {crowd(0), 0, nil, api.OK},
		"one":               {wet(to(0, 0)), 0, []int{0}, api.OK},
		"two in an hour":    {wet(to(0, 0), to(0, 0)), 0, nil, api.ErrState},
		"the last at 4":     {crowd(5), 4, []int{0, 1, 2, 3, 4}, api.OK},
		"one too many":      {crowd(6), 4, nil, api.ErrState},
		"as they are":       {wet(three, two, one), 3, []int{0, 1, 2}, api.OK},
		"the wet ones":      {wet(one, two, three), 3, []int{2, 1, 0}, api.OK},
		"the smallest":      {wet(one, one, three), 3, []int{2, 0, 1}, api.OK},
		"a dry one between": {wet(to(0, 0), one, two, three), 3, []int{3, 2, 1, 0}, api.OK},
		"a dry one first":   {wet(to(0, 0), one, one), 3, []int{0, 1, 2}, api.OK},
		"two at once":       {wet(three, three), 3, nil, api.ErrState},
		"never dry":         {wet(one, to(0, 500)), 4, nil, api.ErrState},
		"not hung at all":   {field([]int{1}, 0, 0, cloth(to(1, 2000), one)), 3, []int{0}, api.OK},
	} {
		if l, e := tenter.Order(x.f, fair(), x.rain); !slices.Equal(l, x.want) || e != x.e {
			t.Errorf("%s: Order = %v, %d, not %v, %d", name, l, e, x.want, x.e)
		}
	}
	seven := wet(to(1, 1), to(2, 2), to(3, 3), to(4, 4), to(5, 5), to(6, 6), to(7, 7))
	if l, e := tenter.Order(seven, steady(7, 1), 7); !slices.Equal(l, []int{6, 5, 4, 3, 2, 1, 0}) || e != api.OK {
		t.Errorf("Order = %v, %d", l, e)
	}
	if l, e := tenter.Order(crowd(7), steady(1, 0), 1); len(l) != 0 || e != api.ErrState {
		t.Errorf("Order of seven in an hour = %v, %d", l, e)
	}
}

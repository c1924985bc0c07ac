package wool_test

import (
	"fmt"
	"math"
	"slices"
	"testing"

	"walkmill/api"
	"walkmill/samples"
	"walkmill/wool"
)

// checked fails unless all functions have an error, whatever their other arguments are: here these are not valid.
func checked(t *testing.T, r api.WoolRoad, want api.Errno) {
	t.Helper()
	name := func(function string) string { return fmt.Sprint(function, " of ", r) }
	if e := wool.Check(r); e != want {
		t.Errorf("%s = %d, not %d", name("Check"), e, want)
	}
	if want == api.OK {
		return
	}
	samples.List[api.Span](t, name("Weights"), nil, want)(wool.Weights(r))
	samples.List[api.Span](t, name("Flocks"), nil, want)(wool.Flocks(r))
	samples.Value(t, name("Missing"), to(0, 0), want)(wool.Missing(r))
	samples.List[int](t, name("Where"), nil, want)(wool.Where(r))
	samples.Value(t, name("Amount"), to(0, 0), want)(wool.Amount(r, -1))
	samples.List[int](t, name("Wrong"), nil, want)(wool.Wrong(r))
	samples.Two(t, name("Look"), 0, 0, want)(wool.Look(r, -1))
	samples.List[int](t, name("Common"), nil, want)(wool.Common(days(r)))
	samples.Value(t, name("Need"), 0, want)(wool.Need(r, -1))
}

// honest reports whether weighings leave an honest truth on a road of bare stations.
func honest(t *testing.T, stations int, weighings ...api.WoolWeighing) bool {
	t.Helper()
	_, e := wool.Weights(road(bare(stations), weighings...))
	if e != api.OK && e != api.ErrState {
		t.Fatalf("Weights of %v = %d", weighings, e)
	}
	return e == api.OK
}

// TestCheckStations is for P10.1 and R1: how many stations there are, and what they are, comes before the weighings; each limit can be reached, and is exceeded by one.
func TestCheckStations(t *testing.T) {
	wrong := weigh(-1, -1, -1)
	for stations, want := range map[int]api.Errno{0: api.ErrForm, 1: api.OK, 5: api.OK, 6: api.ErrForm, 1000: api.ErrForm} {
		checked(t, road(bare(stations)), want)
		if want == api.ErrForm {
			checked(t, road(bare(stations), wrong), want)
			checked(t, road(bare(stations), slices.Repeat(some(wrong), 9)...), want)
		}
	}
	checked(t, road(spans(to(0, 300), to(0, 0), to(300, 300), to(299, 300), to(0, 1))), api.OK)
	for _, takes := range append(samples.Faulty(0, 300), to(300, 299)) {
		checked(t, road(spans(takes)), api.ErrForm)
		checked(t, road(append(bare(4), takes)), api.ErrForm)
		checked(t, road(spans(takes, to(0, 300)), wrong), api.ErrForm)
		checked(t, road(spans(to(0, 300), takes), slices.Repeat(some(wrong), 9)...), api.ErrForm)
	}
}

// TestCheckWeighings is for P10.1 and R1: how many weighings there are comes before what they are; each limit can be reached, and is exceeded by one.
func TestCheckWeighings(t *testing.T) {
	for many, want := range map[int]api.Errno{0: api.OK, 1: api.OK, 8: api.OK, 9: api.ErrLong, 1000: api.ErrLong} {
		checked(t, road(bare(1), slices.Repeat(some(weigh(1, 400, 20)), many)...), want)
		if want == api.ErrLong {
			checked(t, road(bare(1), slices.Repeat(some(weigh(2, 401, 21)), many)...), want)
		}
	}
	good := some(weigh(0, 0, 0), weigh(3, 400, 20), weigh(3, 0, 20), weigh(0, 400, 0))
	checked(t, road(bare(3), good...), api.OK)
	checked(t, road(bare(5), weigh(5, 1, 1)), api.OK)
	for _, w := range some(weigh(-1, 0, 0), weigh(4, 0, 0), weigh(5, 0, 0), weigh(0, -1, 0), weigh(0, 401, 0), weigh(0, 0, -1), weigh(0, 0, 21),
		weigh(math.MinInt, 0, 0), weigh(math.MaxInt, 0, 0), weigh(0, math.MinInt, 0), weigh(0, math.MaxInt, 0), weigh(0, 0, math.MinInt), weigh(0, 0, math.MaxInt)) {
		checked(t, road(bare(3), w), api.ErrArg)
		checked(t, road(bare(3), slices.Concat(good, some(w), good[:3])...), api.ErrArg)
		checked(t, road(bare(3), append(slices.Repeat(good[:1], 7), w)...), api.ErrArg)
	}
	checked(t, road(bare(4), weigh(4, 0, 0)), api.OK)
	checked(t, road(bare(1), weigh(2, 0, 0)), api.ErrArg)
}

// TestWeights is for P10.2 and P10.3: what stations take is rounded down and up; what is weighed later tells of before, and what the cloth can weigh is from 0 to 400.
func TestWeights(t *testing.T) {
	fixed := func(weight int) api.Span { return to(weight, weight) }
	for name, x := range map[string]struct {
		road           api.WoolRoad
		weighs, flocks []api.Span
		none           bool
	}{
		"not weighed":           {road(bare(1)), spans(to(0, 400), to(0, 400)), spans(fixed(0)), false},
		"taken of all":          {road(spans(to(300, 300))), spans(to(0, 400), to(0, 280)), spans(to(0, 120)), false},
		"all of five":           {road(spans(to(0, 300), to(0, 300), to(0, 300), to(0, 300), to(0, 300)), weigh(0, 400, 0)), spans(fixed(400), to(280, 400), to(196, 400), to(137, 400), to(95, 400), to(66, 400)), spans(to(0, 120), to(0, 120), to(0, 120), to(0, 120), to(0, 120)), false},
		"rounded":               {road(spans(to(100, 100)), weigh(0, 105, 0)), spans(fixed(105), to(94, 95)), spans(to(10, 11)), false},
		"not rounded":           {road(spans(to(100, 100)), weigh(0, 110, 0)), spans(fixed(110), fixed(99)), spans(fixed(11)), false},
		"hardly anything":       {road(spans(to(1, 1), to(1, 1)), weigh(0, 1, 0)), spans(fixed(1), to(0, 1), to(0, 1)), spans(to(0, 1), to(0, 1)), false},
		"nothing":               {road(spans(to(300, 300)), weigh(0, 0, 0)), spans(fixed(0), fixed(0)), spans(fixed(0)), false},
		"at most 400":           {road(bare(1), weigh(0, 400, 20)), spans(to(380, 400), to(380, 400)), spans(fixed(0)), false},
		"at least 0":            {road(bare(1), weigh(1, 5, 20)), spans(to(0, 25), to(0, 25)), spans(fixed(0)), false},
		"all at the end":        {road(bare(5), weigh(5, 400, 0)), slices.Repeat(spans(fixed(400)), 6), slices.Repeat(spans(fixed(0)), 5), false},
		"as it came":            {road(spans(to(2, 2)), weigh(1, 399, 0)), spans(to(399, 400), fixed(399)), spans(to(0, 1)), false},
		"weighed behind":        {road(spans(to(100, 200)), weigh(1, 90, 0)), spans(to(99, 113), fixed(90)), spans(to(9, 23)), false},
		"weighed twice":         {road(bare(1), weigh(0, 100, 2), weigh(0, 104, 2)), spans(fixed(102), fixed(102)), spans(fixed(0)), false},
		"weighed at both":       {road(spans(to(0, 100)), weigh(0, 100, 5), weigh(1, 90, 1)), spans(to(95, 102), to(89, 91)), spans(to(4, 11)), false},
		"more cannot be left":   {road(spans(to(3, 300)), weigh(1, 400, 0)), nil, nil, true},
		"weighings that differ": {road(bare(1), weigh(0, 100, 2), weigh(0, 105, 2)), nil, nil, true},
		"more than came":        {road(bare(1), weigh(0, 100, 0), weigh(1, 101, 0)), nil, nil, true},
		"less than is taken":    {road(bare(1), weigh(0, 101, 0), weigh(1, 100, 0)), nil, nil, true},
		"not in between":        {road(bare(2), weigh(0, 100, 3), weigh(1, 104, 0), weigh(2, 102, 0)), nil, nil, true},
	} {
		e := api.OK
		if x.none {
			e = api.ErrState
		}
		samples.List(t, name+": Weights", x.weighs, e)(wool.Weights(x.road))
		samples.List(t, name+": Flocks", x.flocks, e)(wool.Flocks(x.road))
	}
	if !honest(t, 1, weigh(0, 100, 10), weigh(1, 120, 10)) || honest(t, 1, weigh(0, 100, 10), weigh(1, 121, 10)) {
		t.Error("scales that just are wrong by so much")
	}
}

// TestMissing is for P10.4: what is missing beyond what the stations took, at one of them or at several; also if nothing is missing.
func TestMissing(t *testing.T) {
	greedy := slices.Repeat(spans(to(300, 300)), 5)
	for name, x := range map[string]struct {
		road api.WoolRoad
		want api.Span
		e    api.Errno
	}{
		"not weighed":         {road(bare(1)), to(0, 400), api.OK},
		"of five":             {road(bare(5)), to(0, 400), api.OK},
		"what is known":       {road(bare(1), weigh(0, 100, 0), weigh(1, 90, 0)), to(10, 10), api.OK},
		"what scales say":     {road(bare(1), weigh(0, 100, 2), weigh(1, 90, 2)), to(6, 14), api.OK},
		"perhaps nothing":     {road(bare(1), weigh(0, 100, 5), weigh(1, 90, 5)), to(0, 20), api.OK},
		"taken for sure":      {road(spans(to(100, 100)), weigh(0, 100, 0), weigh(1, 85, 0)), to(5, 5), api.OK},
		"taken, rounded":      {road(spans(to(100, 100)), weigh(0, 105, 0), weigh(1, 85, 0)), to(9, 10), api.OK},
		"at the second":       {road(bare(2), weigh(0, 100, 0), weigh(1, 100, 0), weigh(2, 90, 0)), to(10, 10), api.OK},
		"at both":             {road(bare(2), weigh(0, 100, 0), weigh(1, 95, 0), weigh(2, 90, 0)), to(10, 10), api.OK},
		"all":                 {road(bare(1), weigh(0, 400, 0), weigh(1, 0, 0)), to(400, 400), api.OK},
		"before it is taken":  {road(greedy, weigh(0, 400, 0), weigh(5, 0, 0)), to(66, 280), api.OK},
		"nothing came":        {road(greedy, weigh(0, 0, 0)), to(0, 0), api.OK},
		"nothing is left":     {road(greedy, weigh(5, 0, 0)), to(0, 280), api.OK},
		"more than came":      {road(bare(1), weigh(0, 100, 2), weigh(1, 105, 2)), to(0, 0), api.ErrState},
		"weighed differently": {road(bare(1), weigh(1, 90, 0), weigh(1, 91, 0)), to(0, 0), api.ErrState},
	} {
		samples.Value(t, name, x.want, x.e)(wool.Missing(x.road))
	}
}

// TestWhere is for P10.5: the stations between weighings that differ, and none if it was at several.
func TestWhere(t *testing.T) {
	lost := func(weighings ...api.WoolWeighing) api.WoolRoad {
		return more(road(bare(3), weigh(0, 100, 0), weigh(3, 90, 0)), weighings...)
	}
	for name, x := range map[string]struct {
		road api.WoolRoad
		want []int
		e    api.Errno
	}{
		"anywhere":            {lost(), []int{0, 1, 2}, api.OK},
		"not at the first":    {lost(weigh(1, 100, 0)), []int{1, 2}, api.OK},
		"not at the last":     {lost(weigh(2, 90, 0)), []int{0, 1}, api.OK},
		"in the middle":       {lost(weigh(1, 100, 0), weigh(2, 90, 0)), []int{1}, api.OK},
		"at the ends":         {lost(weigh(1, 92, 2)), []int{0}, api.OK},
		"at two":              {lost(weigh(1, 95, 0)), nil, api.ErrState},
		"perhaps at two":      {lost(weigh(1, 95, 5)), []int{0, 1, 2}, api.OK},
		"more than came":      {lost(weigh(1, 101, 0)), nil, api.ErrState},
		"weighed differently": {lost(weigh(1, 90, 0), weigh(1, 100, 0)), nil, api.ErrState},
		"nothing is missing":  {road(bare(3), weigh(0, 100, 5), weigh(3, 90, 5)), nil, api.ErrTwice},
		"an ounce is missing": {road(bare(3), weigh(0, 100, 5), weigh(3, 89, 5)), []int{0, 1, 2}, api.OK},
		"not weighed":         {road(bare(5)), nil, api.ErrTwice},
		"what none takes":     {road(spans(to(300, 300), to(0, 0)), weigh(0, 10, 0), weigh(1, 7, 0), weigh(2, 0, 0)), []int{1}, api.OK},
		"all of it":           {road(bare(2), weigh(0, 400, 0), weigh(1, 0, 0)), []int{0}, api.OK},
		"more of nothing":     {road(bare(2), weigh(0, 0, 0), weigh(1, 1, 0)), nil, api.ErrState},
	} {
		samples.List(t, name, x.want, x.e)(wool.Where(x.road))
	}
}

// TestAmount is for P10.6: at least an ounce, also if there is an honest truth; and none if nothing can have been stolen there alone.
func TestAmount(t *testing.T) {
	for name, x := range map[string]struct {
		road    api.WoolRoad
		station int
		want    api.Span
		e       api.Errno
	}{
		"not weighed":        {road(bare(5)), 4, to(1, 400), api.OK},
		"perhaps nothing":    {road(bare(1), weigh(0, 100, 2), weigh(1, 100, 2)), 0, to(1, 4), api.OK},
		"nothing":            {road(bare(1), weigh(0, 100, 0), weigh(1, 100, 0)), 0, to(0, 0), api.ErrState},
		"of nothing":         {road(bare(1), weigh(0, 0, 0)), 0, to(0, 0), api.ErrState},
		"of an ounce":        {road(bare(1), weigh(0, 1, 0)), 0, to(1, 1), api.OK},
		"before the weighed": {road(bare(2), weigh(0, 100, 0), weigh(1, 90, 0)), 0, to(10, 10), api.OK},
		"not behind it":      {road(bare(2), weigh(0, 100, 0), weigh(1, 90, 0)), 1, to(0, 0), api.ErrState},
		"taken besides":      {road(spans(to(100, 200), to(0, 50)), weigh(0, 200, 0), weigh(2, 100, 0)), 0, to(54, 80), api.OK},
		"taken before":       {road(spans(to(100, 200), to(0, 50)), weigh(0, 200, 0), weigh(2, 100, 0)), 1, to(52, 80), api.OK},
		"the example's":      {mill(150), 0, to(1, 33), api.OK},
		"at several":         {road(bare(2), weigh(0, 100, 0), weigh(1, 95, 0), weigh(2, 90, 0)), 1, to(0, 0), api.ErrState},
		"more than came":     {road(bare(1), weigh(0, 100, 0), weigh(1, 101, 0)), 0, to(0, 0), api.ErrState},
	} {
		samples.Value(t, name, x.want, x.e)(wool.Amount(x.road, x.station))
	}
	for _, station := range []int{-1, 2, 3, 5, math.MinInt, math.MaxInt} {
		samples.Value(t, fmt.Sprint("Amount of the station ", station), to(0, 0), api.ErrNone)(wool.Amount(mill(140), station))
	}
	samples.Value(t, "Amount of what has no truth", to(0, 0), api.ErrNone)(wool.Amount(road(bare(1), weigh(0, 1, 0), weigh(1, 2, 0)), 1))
}

// TestWrong is for P10.7: the fewest weighings, the smallest list of several, and none; also weighings that are wrong by themselves.
func TestWrong(t *testing.T) {
	apart := func(readings ...int) []api.WoolWeighing {
		var list []api.WoolWeighing
		for _, reading := range readings {
			list = append(list, weigh(0, reading, 4))
		}
		return list
	}
	for name, x := range map[string]struct {
		road api.WoolRoad
		want []int
	}{
		"none":               {road(bare(2)), nil},
		"honest":             {mill(150), nil},
		"the first of two":   {road(bare(1), weigh(0, 100, 0), weigh(1, 90, 0)), []int{0}},
		"one against two":    {road(bare(1), weigh(0, 100, 0), weigh(0, 90, 0), weigh(1, 100, 0)), []int{1}},
		"the last":           {road(bare(1), weigh(0, 100, 1), weigh(1, 101, 1), weigh(1, 99, 1), weigh(1, 104, 1)), []int{3}},
		"two against two":    {road(bare(1), apart(100, 110, 100, 110)...), []int{0, 2}},
		"three that are not": {road(bare(1), apart(110, 100, 120, 110, 108)...), []int{1, 2}},
		"all but one":        {road(bare(1), apart(0, 10, 20, 30, 40, 50, 60, 70)...), samples.UpTo(7)},
		"all but two":        {road(bare(1), apart(0, 10, 20, 30, 40, 50, 58, 70)...), []int{0, 1, 2, 3, 4, 7}},
		"what cannot be":     {road(spans(to(300, 300)), weigh(1, 400, 20)), []int{0}},
		"all of them":        {road(spans(to(300, 300)), weigh(1, 400, 20), weigh(1, 399, 20)), []int{0, 1}},
		"what rises":         {road(bare(3), weigh(0, 100, 0), weigh(1, 101, 0), weigh(2, 102, 0), weigh(3, 103, 0)), []int{0, 1, 2}},
	} {
		e := api.OK
		if x.want == nil {
			e = api.ErrTwice
		}
		samples.List(t, name, x.want, e)(wool.Wrong(x.road))
	}
}

// TestLook is for P10.8: the point that tells the most, the first one of several; scales that are just good enough; what is read below 0; and no point.
func TestLook(t *testing.T) {
	lost := func(stations int) api.WoolRoad {
		return road(bare(stations), weigh(0, 100, 0), weigh(stations, 90, 0))
	}
	gone := road(bare(2), weigh(0, 20, 0), weigh(2, 0, 0))
	full := more(lost(2), slices.Repeat(some(weigh(0, 100, 0)), 6)...)
	for name, x := range map[string]struct {
		road          api.WoolRoad
		off, at, left int
		e             api.Errno
	}{
		"one of two":          {lost(2), 0, 1, 1, api.OK},
		"just good enough":    {lost(2), 4, 1, 1, api.OK},
		"not good enough":     {lost(2), 5, 0, 0, api.ErrNone},
		"the first of two":    {lost(3), 0, 1, 2, api.OK},
		"in the middle":       {lost(4), 0, 2, 2, api.OK},
		"of five":             {lost(5), 0, 2, 3, api.OK},
		"one is known":        {lost(1), 0, 0, 0, api.ErrNone},
		"weighed in between":  {more(lost(5), weigh(2, 100, 0)), 0, 3, 2, api.OK},
		"as many as may be":   {full, 0, 1, 1, api.OK},
		"below 0":             {gone, 9, 1, 1, api.OK},
		"from 0 to 20":        {gone, 10, 0, 0, api.ErrNone},
		"above 400":           {road(bare(2), weigh(0, 400, 0), weigh(2, 359, 0)), 20, 1, 1, api.OK},
		"the worst scales":    {road(bare(2), weigh(0, 400, 0), weigh(2, 360, 0)), 20, 0, 0, api.ErrNone},
		"the example's":       {mill(140), 4, 1, 1, api.OK},
		"worse scales":        {mill(140), 5, 0, 0, api.ErrNone},
		"honest":              {mill(150), 0, 0, 0, api.ErrTwice},
		"at two":              {road(bare(2), weigh(0, 100, 0), weigh(1, 95, 0), weigh(2, 90, 0)), 0, 0, 0, api.ErrState},
		"weighed differently": {road(bare(2), weigh(0, 100, 0), weigh(0, 95, 0)), 20, 0, 0, api.ErrState},
	} {
		samples.Two(t, name, x.at, x.left, x.e)(wool.Look(x.road, x.off))
	}
	for _, off := range []int{-1, 21, math.MinInt, math.MaxInt} {
		for _, r := range days(mill(140), mill(150), road(bare(1), weigh(0, 1, 0), weigh(1, 2, 0))) {
			samples.Two(t, fmt.Sprint("Look with scales wrong by ", off), 0, 0, api.ErrRange)(wool.Look(r, off))
		}
	}
}

// TestCommonErrors is for P10.9 and R1: how many days there are comes before what they are, and this before how many stations they have; each limit can be reached, and is exceeded by one.
func TestCommonErrors(t *testing.T) {
	good, broken := road(bare(2), weigh(0, 100, 0), weigh(2, 90, 0)), api.WoolRoad{}
	long, wrong := road(bare(1), make([]api.WoolWeighing, 9)...), road(bare(1), weigh(2, 0, 0))
	honest, three := road(bare(2)), road(bare(3))
	for name, x := range map[string]struct {
		days []api.WoolRoad
		e    api.Errno
	}{
		"six":                        {slices.Repeat(days(good), 6), api.ErrFull},
		"six that are broken":        {slices.Repeat(days(broken), 6), api.ErrFull},
		"many":                       {make([]api.WoolRoad, 1000), api.ErrFull},
		"the first one is long":      {days(good, long, broken, wrong), api.ErrLong},
		"the first one is broken":    {days(broken, long, wrong), api.ErrForm},
		"the first one is wrong":     {days(good, three, wrong, broken, long), api.ErrArg},
		"the last one is broken":     {days(good, good, good, three, broken), api.ErrForm},
		"a station more":             {days(good, three), api.ErrRange},
		"a station less":             {days(three, honest), api.ErrRange},
		"the last has a station":     {days(good, good, good, good, road(bare(1))), api.ErrRange},
		"none":                       {nil, api.ErrTwice},
		"one that is honest":         {days(honest), api.ErrTwice},
		"five that are honest":       {slices.Repeat(days(honest), 5), api.ErrTwice},
		"one without such a station": {days(road(bare(2), weigh(0, 1, 0), weigh(2, 2, 0))), api.ErrState},
		"another one without":        {days(good, honest, road(bare(2), weigh(0, 1, 0), weigh(2, 2, 0))), api.ErrState},
	} {
		samples.List[int](t, name, nil, x.e)(wool.Common(x.days))
	}
	samples.List(t, "five", []int{0, 1}, api.OK)(wool.Common(slices.Repeat(days(good), 5)))
}

// TestCommon is for P10.9: the stations that can be the one on all days on which something is missing.
func TestCommon(t *testing.T) {
	lost := func(weighings ...api.WoolWeighing) api.WoolRoad {
		return more(road(bare(3), weigh(0, 100, 0), weigh(3, 90, 0)), weighings...)
	}
	early, late := lost(weigh(2, 90, 0)), lost(weigh(1, 100, 0)) // at 0 or 1, and at 1 or 2
	for name, x := range map[string]struct {
		days []api.WoolRoad
		want []int
	}{
		"one day":           {days(lost()), []int{0, 1, 2}},
		"two days":          {days(early, late), []int{1}},
		"two days and one":  {days(lost(), early, early, lost()), []int{0, 1}},
		"honest days":       {days(road(bare(3)), late, road(bare(3), weigh(1, 9, 0)), lost()), []int{1, 2}},
		"another each day":  {days(lost(weigh(1, 90, 0)), late), nil},
		"other stations":    {days(early, road(spans(to(0, 200), to(0, 0), to(0, 0)), weigh(0, 100, 0), weigh(2, 80, 0), weigh(3, 70, 0))), nil},
		"none on a bad day": {days(lost(), lost(weigh(1, 95, 0)), lost()), nil},
	} {
		e := api.OK
		if x.want == nil {
			e = api.ErrState
		}
		samples.List(t, name, x.want, e)(wool.Common(x.days))
	}
}

// TestNeed is for P10.10: what is taken at most, rounded up; whatever the weighings say; and more than a cloth can weigh.
func TestNeed(t *testing.T) {
	for _, x := range []struct {
		stations   []api.Span
		want, need int
		e          api.Errno
	}{
		{bare(1), 0, 0, api.OK}, {bare(5), 400, 400, api.OK}, {spans(to(300, 300)), 0, 0, api.OK},
		{spans(to(0, 300)), 280, 400, api.OK}, {spans(to(0, 300)), 281, 0, api.ErrNone}, {spans(to(0, 300)), 400, 0, api.ErrNone},
		{spans(to(0, 300)), 1, 2, api.OK}, {spans(to(0, 300)), 2, 3, api.OK}, {spans(to(0, 300)), 7, 10, api.OK}, {spans(to(0, 300)), 8, 12, api.OK},
		{spans(to(0, 1)), 1, 2, api.OK}, {spans(to(0, 1)), 399, 400, api.OK}, {spans(to(1, 1)), 400, 0, api.ErrNone},
		{slices.Repeat(spans(to(0, 1)), 5), 1, 6, api.OK}, {slices.Repeat(spans(to(0, 300)), 5), 66, 399, api.OK}, {slices.Repeat(spans(to(0, 300)), 5), 67, 0, api.ErrNone},
		{spans(to(100, 200), to(0, 50)), 150, 198, api.OK}, {spans(to(0, 50), to(100, 200)), 150, 198, api.OK},
	} {
		for _, weighings := range [][]api.WoolWeighing{nil, some(weigh(0, 5, 0), weigh(1, 400, 0), weigh(1, 0, 0))} {
			r := road(x.stations, weighings...)
			samples.Value(t, fmt.Sprint("Need of ", r, " for ", x.want), x.need, x.e)(wool.Need(r, x.want))
		}
	}
	for _, want := range []int{-1, 401, math.MinInt, math.MaxInt} {
		samples.Value(t, fmt.Sprint("Need for ", want), 0, api.ErrRange)(wool.Need(mill(150), want))
	}
}

package teasel_test

import (
	"fmt"
	"math"
	"slices"
	"testing"

	"walkmill/api"
	"walkmill/samples"
	"walkmill/teasel"
)

// planned fails unless all functions with a plan have an error, whatever their other arguments are: here these are not valid.
func planned(t *testing.T, rack []api.TeaselFrame, plan []api.TeaselPass, want api.Errno) {
	t.Helper()
	name := func(function string) string { return fmt.Sprint(function, " of ", rack, " with ", plan) }
	samples.List[api.Span](t, name("Raise"), nil, want)(teasel.Raise(rack, plan))
	samples.Table[api.Span](t, name("Left"), nil, want)(teasel.Left(rack, plan))
	samples.Two(t, name("Even"), false, false, want)(teasel.Even(rack, plan, -1))
	samples.Two(t, name("Turned"), 0, 0, want)(teasel.Turned(rack, plan))
	samples.List[api.TeaselRow](t, name("Guilty"), nil, want)(teasel.Guilty(rack, plan, make([]int, 7)))
}

// dulled fails unless all functions of blunt rows have an error, whatever passes are.
func dulled(t *testing.T, rack []api.TeaselFrame, blunt int, want api.Errno) {
	t.Helper()
	name := func(function string) string { return fmt.Sprint(function, " of ", rack, " with ", blunt) }
	samples.Table[api.Span](t, name("Lives"), nil, want)(teasel.Lives(rack, blunt))
	samples.Value(t, name("Cloths"), api.Span{}, want)(teasel.Cloths(rack, blunt, 0))
	samples.Value(t, name("Total"), api.Span{}, want)(teasel.Total(rack, blunt))
	samples.Table[api.TeaselRow](t, name("Schedule"), nil, want)(teasel.Schedule(rack, blunt))
}

// check fails unless all functions have the error of Check of some racks first.
func check(t *testing.T, want api.Errno, racks ...[]api.TeaselFrame) {
	t.Helper()
	for _, rack := range racks {
		if e := teasel.Check(rack); e != want {
			t.Errorf("%v: Check = %d, not %d", rack, e, want)
		}
		if want == api.OK {
			continue
		}
		planned(t, rack, make([]api.TeaselPass, 11), want)
		planned(t, rack, by(pass(-1)), want)
		dulled(t, rack, 0, want)
		samples.List[api.TeaselPass](t, "Fewest", nil, want)(teasel.Fewest(rack, 5, 4))
	}
}

// faulty are frames of three rows that are not valid, each by one of its limits.
func faulty() []api.TeaselFrame {
	return []api.TeaselFrame{
		frame(to(1, 2), 61, 1, 1), frame(to(1, 2), 1, 1, 61), frame(to(1, 2), 1, -1, 1), frame(to(1, 2), math.MinInt, 1, 1), frame(to(1, 2), 1, 1, math.MaxInt),
		frame(to(-1, 0), 1, 1, 1), frame(to(-1, -1), 1, 1, 1), frame(to(10, 11), 1, 1, 1), frame(to(11, 11), 1, 1, 1), frame(to(2, 1), 1, 1, 1),
		frame(to(0, 4), 1, 1, 1), frame(to(6, 10), 1, 1, 1), frame(to(0, 10), 1, 1, 1),
		frame(to(math.MinInt, 0), 1, 1, 1), frame(to(0, math.MaxInt), 1, 1, 1), frame(to(math.MinInt, math.MaxInt), 1, 1, 1), frame(to(math.MaxInt, math.MinInt), 1, 1, 1),
	}
}

// TestCheckForm is for P8.1 and R1: how many frames there are comes before how many rows they have, and this before what they are.
func TestCheckForm(t *testing.T) {
	bad := frame(to(5, 4), -1, 61)
	check(t, api.OK, rack(), many(1, 1), many(3, 6), many(3, 1), many(1, 6), many(2, 2))
	check(t, api.ErrLong, many(4, 1), many(4, 7), make([]api.TeaselFrame, 4), make([]api.TeaselFrame, 1000), of(bad, bad, bad, bad))
	check(t, api.ErrNone, nil, of())
	check(t, api.ErrForm,
		make([]api.TeaselFrame, 1), make([]api.TeaselFrame, 3), many(1, 7), many(3, 7), many(1, 1000), single(1, []int{}...),
		of(frame(to(1, 2), 1, 1), frame(to(1, 2), 1, 1, 1)), of(frame(to(1, 2), 1, 1, 1), frame(to(1, 2), 1, 1)),
		of(frame(to(1, 2), 1), frame(to(1, 2), 1), frame(to(1, 2), 1, 1)), of(frame(to(1, 2), 1), frame(to(1, 2))), of(frame(to(1, 2)), frame(to(1, 2), 1)),
		of(bad, frame(to(1, 2), 1)), of(frame(to(1, 2), 1), bad), of(bad, frame(to(1, 2), slices.Repeat([]int{1}, 7)...)))
}

// TestCheckFrames is for P8.1: each limit of rows and of Wears can be reached, and is exceeded by one, in each frame.
func TestCheckFrames(t *testing.T) {
	for _, wears := range []api.Span{to(0, 0), to(0, 3), to(7, 10), to(10, 10), to(4, 6)} {
		check(t, api.OK, of(frame(wears, 0, 60, 0)), of(frame(to(1, 1), 1), frame(wears, 60), frame(to(1, 1), 0)))
	}
	good := frame(to(1, 2), 1, 1, 1)
	for _, bad := range faulty() {
		check(t, api.ErrArg, of(bad), of(bad, good, good), of(good, bad, good), of(good, good, bad))
	}
}

// TestPlanErrors is for P8.1 and R1: how many passes there are comes before which frames they have, and both before all else; each limit is exceeded by one.
func TestPlanErrors(t *testing.T) {
	planned(t, rack(), make([]api.TeaselPass, 11), api.ErrFull)
	planned(t, rack(), make([]api.TeaselPass, 1000), api.ErrFull)
	planned(t, rack(), slices.Repeat(by(pass(2)), 11), api.ErrFull)
	for _, bad := range by(pass(2), turned(2), pass(-1), turned(-1), pass(3), pass(math.MinInt), pass(math.MaxInt)) {
		planned(t, rack(), by(bad), api.ErrRange)
		planned(t, rack(), append(make([]api.TeaselPass, 9), bad), api.ErrRange)
	}
	planned(t, many(1, 1), by(pass(1)), api.ErrRange)
	if l := raise(t, many(3, 1), by(pass(2), turned(2))); len(l) != 1 {
		t.Errorf("Raise = %v", l)
	}
	if l := raise(t, rack(), make([]api.TeaselPass, 10)); len(l) != 3 {
		t.Errorf("Raise of ten passes = %v", l)
	}
}

// TestRaise is for P8.2 and P8.3: passes that are turned, of several frames, and rows that become as blunt as can be.
func TestRaise(t *testing.T) {
	exact := func(list ...int) []api.Span {
		var spans []api.Span
		for _, x := range list {
			spans = append(spans, to(x, x))
		}
		return spans
	}
	two := of(frame(to(3, 3), 9, 5, 1), frame(to(1, 1), 2, 7, 0))
	for name, x := range map[string]struct {
		rack  []api.TeaselFrame
		plan  []api.TeaselPass
		raise []api.Span
		left  [][]api.Span
	}{
		"no passes":              {rack(), nil, exact(0, 0, 0), [][]api.Span{exact(10, 8, 9), exact(6, 6, 12)}},
		"one":                    {two, by(pass(0)), exact(9, 5, 1), [][]api.Span{exact(6, 2, 0), exact(2, 7, 0)}},
		"one turned":             {two, by(turned(0)), exact(1, 5, 9), [][]api.Span{exact(6, 2, 0), exact(2, 7, 0)}},
		"the other frame":        {two, by(pass(1)), exact(2, 7, 0), [][]api.Span{exact(9, 5, 1), exact(1, 6, 0)}},
		"both":                   {two, by(pass(1), pass(0)), exact(11, 12, 1), [][]api.Span{exact(6, 2, 0), exact(1, 6, 0)}},
		"again":                  {two, by(pass(0), pass(0)), exact(15, 7, 1), [][]api.Span{exact(3, 0, 0), exact(2, 7, 0)}},
		"again, turned":          {two, by(pass(0), turned(0)), exact(9, 7, 7), [][]api.Span{exact(3, 0, 0), exact(2, 7, 0)}},
		"with one between":       {two, by(pass(0), turned(1), pass(0)), exact(15, 14, 3), [][]api.Span{exact(3, 0, 0), exact(1, 6, 0)}},
		"all blunt":              {two, slices.Repeat(by(pass(0)), 10), exact(18, 7, 1), [][]api.Span{exact(0, 0, 0), exact(2, 7, 0)}},
		"one row":                {single(2, 5), by(pass(0), turned(0), pass(0)), exact(9), [][]api.Span{exact(0)}},
		"two rows":               {single(2, 5, 9), by(pass(0), turned(0)), exact(12, 12), [][]api.Span{exact(1, 5)}},
		"what does not wear":     {single(0, 60), slices.Repeat(by(pass(0)), 10), exact(600), [][]api.Span{exact(60)}},
		"nothing sharp":          {single(10, 0, 0), by(pass(0), pass(0)), exact(0, 0), [][]api.Span{exact(0, 0)}},
		"a doubt":                {of(frame(to(0, 3), 5)), by(pass(0), pass(0), pass(0)), []api.Span{to(7, 15)}, [][]api.Span{{to(0, 5)}}},
		"two doubts":             {of(frame(to(0, 3), 5), frame(to(2, 3), 60)), by(pass(0), pass(0), pass(1), pass(1)), []api.Span{to(124, 128)}, [][]api.Span{{to(0, 5)}, {to(54, 56)}}},
		"a doubt of no use":      {of(frame(to(0, 3), 5), frame(to(2, 3), 60)), by(pass(0)), []api.Span{to(5, 5)}, [][]api.Span{{to(2, 5)}, {to(60, 60)}}},
		"three frames, six rows": {many(3, 6), by(pass(2), turned(1)), exact(120, 120, 120, 120, 120, 120), [][]api.Span{exact(60, 60, 60, 60, 60, 60), slices.Repeat([]api.Span{to(50, 53)}, 6), slices.Repeat([]api.Span{to(50, 53)}, 6)}},
	} {
		samples.List(t, name+": Raise", x.raise, api.OK)(teasel.Raise(x.rack, x.plan))
		samples.Table(t, name+": Left", x.left, api.OK)(teasel.Left(x.rack, x.plan))
	}
}

// TestEven is for P8.4: stripes that are even in some truths, and the limit itself.
func TestEven(t *testing.T) {
	blunt := of(frame(to(0, 3), 12, 2)) // the second row has less to lose, so stripes are less far apart if it wears more
	for name, x := range map[string]struct {
		rack  []api.TeaselFrame
		plan  []api.TeaselPass
		apart api.Span // in all truths
	}{
		"no passes":        {rack(), nil, to(0, 0)},
		"one row":          {of(frame(to(0, 3), 9)), by(pass(0), pass(0)), to(0, 0)},
		"as it wears":      {of(frame(to(1, 3), 20, 20), frame(to(0, 0), 5, 3)), by(pass(0), pass(1), pass(0)), to(2, 2)},
		"two passes":       {blunt, by(pass(0), pass(0)), to(19, 20)},
		"three passes":     {blunt, by(pass(0), pass(0), pass(0)), to(25, 30)},
		"one turned":       {blunt, by(pass(0), turned(0)), to(0, 1)},
		"in the middle":    {single(0, 4, 9, 1, 4), by(pass(0)), to(8, 8)},
		"the greatest nap": {single(0, 60, 0), slices.Repeat(by(pass(0)), 10), to(600, 600)},
	} {
		for limit := range x.apart.High + 3 {
			samples.Two(t, fmt.Sprint(name, " within ", limit), x.apart.High <= limit, x.apart.Low <= limit, api.OK)(teasel.Even(x.rack, x.plan, limit))
		}
		samples.Two(t, name+" within 1000", true, true, api.OK)(teasel.Even(x.rack, x.plan, 1000))
		for _, limit := range []int{-1, 1001, math.MinInt, math.MaxInt} {
			samples.Two(t, name+" without a limit", false, false, api.ErrRange)(teasel.Even(x.rack, x.plan, limit))
		}
	}
}

// TestTurned is for P8.5: a pass that is turned, one that is turned back, the first one of several, and none.
func TestTurned(t *testing.T) {
	none := api.ErrNone
	for name, x := range map[string]struct {
		rack        []api.TeaselFrame
		plan        []api.TeaselPass
		pass, apart int
		e           api.Errno
	}{
		"no passes":       {rack(), nil, 0, 0, none},
		"one row":         {single(1, 9), by(pass(0), pass(0)), 0, 0, none},
		"one pass":        {single(1, 9, 5), by(pass(0)), 0, 0, none},
		"two":             {single(0, 9, 5), by(pass(0), pass(0)), 0, 0, api.OK},
		"both turned":     {single(0, 9, 5), by(turned(0), turned(0)), 0, 0, api.OK},
		"even already":    {single(0, 9, 5), by(pass(0), turned(0)), 0, 0, none},
		"turned back":     {single(0, 9, 5), by(pass(0), turned(0), turned(0), turned(0)), 1, 0, api.OK},
		"three":           {single(0, 9, 5), by(pass(0), pass(0), pass(0)), 0, 4, api.OK},
		"the best":        {of(frame(to(0, 0), 9, 5), frame(to(0, 0), 20, 12)), by(pass(0), pass(0), pass(1)), 2, 0, api.OK},
		"as sharp as new": {single(3, 9, 2), by(pass(0), pass(0), pass(0)), 0, 2, api.OK},
		"only worse":      {single(3, 9, 2), by(pass(0), turned(0), turned(0)), 0, 0, none},
		"the worst truth": {of(frame(to(0, 3), 12, 2)), by(pass(0), pass(0)), 0, 1, api.OK},
		"all alike":       {single(0, 7, 7, 7), by(pass(0), pass(0)), 0, 0, none},
		"as far apart":    {single(0, 9, 5, 9), by(pass(0), pass(0)), 0, 0, none},
		"ten passes":      {single(0, 1, 0), slices.Concat(slices.Repeat(by(turned(0)), 4), slices.Repeat(by(pass(0)), 6)), 4, 0, api.OK},
	} {
		samples.Two(t, name, x.pass, x.apart, x.e)(teasel.Turned(x.rack, x.plan))
	}
}

// TestFewest is for P8.6: no pass if none is needed, the shortest plan, the smallest list of several, all truths, and five passes at most.
func TestFewest(t *testing.T) {
	unlike := of(frame(to(0, 0), 5), frame(to(0, 0), 7))
	doubt := of(frame(to(0, 3), 10))
	for name, x := range map[string]struct {
		rack       []api.TeaselFrame
		need, harm int
		want       []api.TeaselPass
		e          api.Errno
	}{
		"nothing":             {rack(), 0, 0, nil, api.OK},
		"nothing is needed":   {rack(), 0, 1000, nil, api.OK},
		"everything":          {many(3, 6), 1000, 1000, nil, api.ErrState},
		"the first frame":     {unlike, 1, 1000, by(pass(0)), api.OK},
		"the second frame":    {unlike, 6, 7, by(pass(1)), api.OK},
		"both":                {unlike, 12, 12, by(pass(0), pass(1)), api.OK},
		"neither":             {unlike, 11, 11, nil, api.ErrState},
		"turned":              {single(0, 5, 9), 14, 14, by(pass(0), turned(0)), api.OK},
		"a shorter one":       {of(frame(to(0, 0), 1), frame(to(0, 0), 60)), 5, 60, by(pass(1)), api.OK},
		"five":                {single(0, 5), 25, 25, slices.Repeat(by(pass(0)), 5), api.OK},
		"more than five":      {single(0, 5), 26, 1000, nil, api.ErrState},
		"what wears":          {single(2, 5), 9, 9, slices.Repeat(by(pass(0)), 3), api.OK},
		"what is blunt then":  {single(2, 5), 10, 1000, nil, api.ErrState},
		"in all truths":       {doubt, 18, 30, slices.Repeat(by(pass(0)), 3), api.OK},
		"just enough":         {doubt, 17, 20, slices.Repeat(by(pass(0)), 2), api.OK},
		"not enough":          {doubt, 18, 29, nil, api.ErrState},
		"too much":            {doubt, 17, 19, nil, api.ErrState},
		"too much, one of it": {of(frame(to(0, 0), 9, 10, 9)), 9, 9, nil, api.ErrState},
		"the last frame":      {of(frame(to(0, 0), 0), frame(to(0, 0), 0), frame(to(0, 0), 8)), 40, 40, slices.Repeat(by(pass(2)), 5), api.OK},
		"nothing sharp":       {single(0, 0), 1, 1000, nil, api.ErrState},
	} {
		samples.List(t, name, x.want, x.e)(teasel.Fewest(x.rack, x.need, x.harm))
	}
	for _, x := range [][2]int{{-1, 5}, {5, 1001}, {1001, 1001}, {-1, -1}, {5, 4}, {1000, 0}, {math.MinInt, 5}, {5, math.MaxInt}, {math.MaxInt, math.MinInt}, {math.MinInt, math.MaxInt}} {
		samples.List[api.TeaselPass](t, fmt.Sprint("Fewest of ", x), nil, api.ErrRange)(teasel.Fewest(rack(), x[0], x[1]))
	}
}

// TestBluntErrors is for P8.7 to P8.10 and R1: a limit that is not valid.
func TestBluntErrors(t *testing.T) {
	for _, blunt := range []int{-1, 0, 61, math.MinInt, math.MaxInt} {
		dulled(t, rack(), blunt, api.ErrRange)
		samples.Value(t, "Cloths", api.Span{}, api.ErrRange)(teasel.Cloths(rack(), blunt, 1))
	}
	for _, passes := range []int{-1, 0, 11, math.MinInt, math.MaxInt} {
		samples.Value(t, "Cloths", api.Span{}, api.ErrRange)(teasel.Cloths(rack(), 1, passes))
	}
}

// TestLives is for P8.7: a row that is as sharp as it must be, one that is not from the first, and one that does not wear.
func TestLives(t *testing.T) {
	for _, x := range []struct {
		wears        api.Span
		sharp, blunt int
		want         api.Span
	}{
		{to(3, 3), 10, 1, to(4, 4)}, {to(3, 3), 10, 2, to(3, 3)}, {to(3, 3), 10, 4, to(3, 3)}, {to(3, 3), 10, 5, to(2, 2)}, {to(3, 3), 10, 7, to(2, 2)}, {to(3, 3), 10, 8, to(1, 1)},
		{to(3, 3), 10, 10, to(1, 1)}, {to(3, 3), 10, 11, to(0, 0)}, {to(3, 3), 0, 1, to(0, 0)}, {to(0, 3), 5, 6, to(0, 0)},
		{to(0, 0), 5, 5, to(100, 100)}, {to(0, 0), 60, 1, to(100, 100)}, {to(0, 0), 4, 5, to(0, 0)},
		{to(1, 1), 60, 1, to(60, 60)}, {to(10, 10), 60, 60, to(1, 1)}, {to(10, 10), 60, 1, to(6, 6)},
		{to(0, 3), 60, 60, to(1, 100)}, {to(0, 3), 60, 57, to(2, 100)}, {to(1, 4), 9, 1, to(3, 9)},
	} {
		samples.Table(t, fmt.Sprint("Lives of ", x), [][]api.Span{{x.want}}, api.OK)(teasel.Lives(of(frame(x.wears, x.sharp)), x.blunt))
	}
	l, e := teasel.Lives(many(3, 6), 60)
	samples.Table(t, "Lives of the greatest", slices.Repeat([][]api.Span{slices.Repeat([]api.Span{to(1, 1)}, 6)}, 3), api.OK)(l, e)
}

// TestCloths is for P8.8: cloths that need as many passes as there are, or one more, of one frame or of several.
func TestCloths(t *testing.T) {
	for name, x := range map[string]struct {
		rack          []api.TeaselFrame
		blunt, passes int
		want          api.Span
	}{
		"one each":                {single(1, 60), 1, 1, to(60, 60)},
		"ten each":                {single(1, 60), 1, 10, to(6, 6)},
		"some left":               {single(1, 60), 1, 7, to(8, 8)},
		"just one":                {single(1, 5), 1, 5, to(1, 1)},
		"not one":                 {single(1, 5), 1, 6, to(0, 0)},
		"by the bluntest row":     {single(1, 60, 3, 50), 2, 1, to(2, 2)},
		"one row is blunt":        {single(0, 60, 3, 50), 4, 1, to(0, 0)},
		"two frames for a cloth":  {of(frame(to(1, 1), 3), frame(to(1, 1), 4)), 1, 7, to(1, 1)},
		"one too few":             {of(frame(to(1, 1), 3), frame(to(1, 1), 4)), 1, 8, to(0, 0)},
		"a blunt frame":           {of(frame(to(1, 1), 3, 0), frame(to(1, 1), 4, 5)), 1, 2, to(2, 2)},
		"what does not wear":      {single(0, 9), 9, 10, to(10, 10)},
		"three that do not":       {known(many(3, 6), []int{0, 0, 0}), 60, 1, to(300, 300)},
		"a doubt":                 {of(frame(to(0, 1), 5)), 5, 10, to(0, 10)},
		"two doubts":              {of(frame(to(1, 2), 8), frame(to(1, 3), 9)), 1, 2, to(3, 8)},
		"what is left over twice": {of(frame(to(1, 1), 5), frame(to(1, 1), 5)), 1, 3, to(3, 3)},
	} {
		samples.Value(t, name, x.want, api.OK)(teasel.Cloths(x.rack, x.blunt, x.passes))
	}
}

// surely are for how many passes the rows of a rack are not blunt in each truth.
func surely(rack []api.TeaselFrame, blunt int) map[api.TeaselRow]int {
	all := map[api.TeaselRow]int{}
	for _, r := range rows(rack) {
		all[r] = ends(rack, func(x []int) int { return life(rack, x, r, blunt) }).Low
	}
	return all
}

// schedule fails unless Schedule has so many passes, each of them with as many rows as a frame, ascending, and each row no more often than it surely lives.
func schedule(t *testing.T, rack []api.TeaselFrame, blunt, passes int) {
	t.Helper()
	list, e := teasel.Schedule(rack, blunt)
	if e != api.OK || len(list) != passes {
		t.Fatalf("Schedule(%v, %d) = %v, %d, not %d passes", rack, blunt, list, e, passes)
	}
	left := surely(rack, blunt)
	for _, pass := range list {
		if len(pass) != len(rack[0].Rows) {
			t.Fatalf("Schedule(%v, %d) = %v: %v has not %d rows", rack, blunt, list, pass, len(rack[0].Rows))
		}
		for i, r := range pass {
			if i > 0 && (r.Frame < pass[i-1].Frame || r.Frame == pass[i-1].Frame && r.Row <= pass[i-1].Row) {
				t.Fatalf("Schedule(%v, %d) = %v: %v does not ascend", rack, blunt, list, pass)
			}
			left[r]--
			if left[r] < 0 {
				t.Fatalf("Schedule(%v, %d) = %v: %v is blunt", rack, blunt, list, r)
			}
		}
	}
}

// TestTotal is for P8.9 and P8.10: rows that last so long that others must, those that are blunt, and those that do not wear.
func TestTotal(t *testing.T) {
	for name, x := range map[string]struct {
		rack  []api.TeaselFrame
		blunt int
		want  api.Span
	}{
		"one row":              {single(1, 5), 1, to(5, 5)},
		"one frame":            {single(1, 5, 3), 1, to(3, 3)},
		"a blunt row":          {single(1, 5, 0), 1, to(0, 0)},
		"all blunt":            {single(0, 5, 5), 6, to(0, 0)},
		"frames of one row":    {of(frame(to(1, 1), 5), frame(to(1, 1), 3)), 1, to(8, 8)},
		"instead of a blunt":   {of(frame(to(1, 1), 5, 0), frame(to(1, 1), 5, 5)), 1, to(7, 7)},
		"just enough":          {of(frame(to(1, 1), 4, 1), frame(to(1, 1), 1, 2)), 1, to(4, 4)},
		"one is too long":      {of(frame(to(1, 1), 9, 1), frame(to(1, 1), 1, 2)), 1, to(4, 4)},
		"two are too long":     {of(frame(to(1, 1), 9, 9, 1), frame(to(1, 1), 1, 1, 0)), 1, to(3, 3)},
		"two that do not wear": {of(frame(to(0, 0), 9, 1), frame(to(1, 1), 1, 1)), 1, to(101, 101)},
		"nothing wears":        {known(many(3, 6), []int{0, 0, 0}), 60, to(300, 300)},
		"nothing of one":       {single(0, 9, 9), 9, to(100, 100)},
		"the greatest":         {many(3, 6), 60, to(3, 3)},
		"a doubt":              {of(frame(to(0, 1), 5)), 5, to(1, 100)},
		"two doubts":           {of(frame(to(1, 2), 8, 2), frame(to(1, 3), 9, 1)), 1, to(4, 10)},
	} {
		samples.Value(t, name, x.want, api.OK)(teasel.Total(x.rack, x.blunt))
		schedule(t, x.rack, x.blunt, x.want.Low)
	}
}

// TestGuilty is for P8.11: one row, several ones, what a row has less than it can, and naps that no row explains.
func TestGuilty(t *testing.T) {
	two := of(frame(to(0, 0), 5, 5), frame(to(0, 0), 6, 6))
	doubt := of(frame(to(1, 2), 10))
	none, twice := api.ErrState, api.ErrTwice
	for name, x := range map[string]struct {
		rack []api.TeaselFrame
		plan []api.TeaselPass
		nap  []int
		want []api.TeaselRow
		e    api.Errno
	}{
		"no passes":              {rack(), nil, []int{0, 0, 0}, nil, twice},
		"not of no passes":       {rack(), nil, []int{0, 1, 0}, nil, none},
		"of either frame":        {two, by(pass(0), pass(1)), []int{10, 11}, []api.TeaselRow{row(0, 0), row(1, 0)}, api.OK},
		"down to 0":              {two, by(pass(0), pass(1)), []int{11, 6}, []api.TeaselRow{row(0, 1), row(1, 1)}, api.OK},
		"of one frame":           {two, by(pass(0), pass(1)), []int{11, 5}, []api.TeaselRow{row(1, 1)}, api.OK},
		"too little":             {two, by(pass(0), pass(1)), []int{11, 4}, nil, none},
		"too much":               {two, by(pass(0), pass(1)), []int{12, 11}, nil, none},
		"two rows":               {two, by(pass(0), pass(1)), []int{10, 10}, nil, none},
		"the frame that is used": {two, by(pass(1)), []int{6, 5}, []api.TeaselRow{row(1, 1)}, api.OK},
		"turned":                 {two, by(turned(1)), []int{6, 5}, []api.TeaselRow{row(1, 0)}, api.OK},
		"either way":             {two, by(pass(0), turned(0)), []int{9, 9}, []api.TeaselRow{row(0, 0), row(0, 1)}, api.OK},
		"one way":                {two, by(pass(0), turned(0)), []int{9, 10}, nil, none},
		"as blunt as can be":     {single(0, 0, 9), by(pass(0)), []int{0, 8}, []api.TeaselRow{row(0, 1)}, api.OK},
		"below 0":                {single(0, 0, 9), by(pass(0)), []int{-1, 9}, nil, none},
		"nothing at all":         {single(0, 0, 0), by(pass(0)), []int{0, 0}, nil, twice},
		"what wears":             {single(3, 5), by(pass(0), pass(0)), []int{5}, []api.TeaselRow{row(0, 0)}, api.OK},
		"between":                {single(3, 5), by(pass(0), pass(0)), []int{6}, nil, none},
		"by the one truth":       {doubt, by(pass(0), pass(0)), []int{19}, nil, twice},
		"by the other":           {doubt, by(pass(0), pass(0)), []int{18}, nil, twice},
		"by neither":             {doubt, by(pass(0), pass(0)), []int{17}, []api.TeaselRow{row(0, 0)}, api.OK},
		"above both":             {doubt, by(pass(0), pass(0)), []int{20}, nil, none},
		"the greatest":           {many(3, 6), by(pass(2)), []int{60, 60, 60, 60, 60, 0}, []api.TeaselRow{row(2, 5)}, api.OK},
		"any number":             {many(1, 2), by(pass(0)), []int{math.MinInt, math.MaxInt}, nil, none},
	} {
		samples.List(t, name, x.want, x.e)(teasel.Guilty(x.rack, x.plan, x.nap))
	}
	for _, nap := range [][]int{nil, {10}, {10, 8}, {10, 8, 9, 0}, make([]int, 1000)} {
		samples.List[api.TeaselRow](t, fmt.Sprint("Guilty of ", len(nap)), nil, api.ErrForm)(teasel.Guilty(rack(), by(pass(0)), nap))
	}
}

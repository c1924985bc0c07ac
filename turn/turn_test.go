package turn_test

import (
	"math"
	"slices"
	"testing"

	"walkmill/api"
	"walkmill/samples"
	"walkmill/turn"
)

// answer is a result of any function, for tests that look at errors: whether each other result is its zero value, and the error.
type answer struct {
	name  string
	empty bool
	e     api.Errno
}

// stocked asks all functions with stocks about a day, with other arguments that are not valid.
func stocked(d api.TurnDay, stocks int) []answer {
	s, e := turn.Starts(d, stocks)
	list := []answer{{"Starts", len(s) == 0, e}}
	cloth, hours, e := turn.Waits(d, stocks)
	list = append(list, answer{"Waits", cloth == 0 && hours == 0, e})
	end, e := turn.Ends(d, stocks)
	list = append(list, answer{"Ends", end == to(0, 0), e})
	l, e := turn.Proof(d, stocks, -1)
	list = append(list, answer{"Proof", len(l) == 0, e})
	cloth, more, e := turn.Joined(d, stocks, -1, -1)
	list = append(list, answer{"Joined", cloth == 0 && more == 0, e})
	more, e = turn.Slack(d, stocks, -1, -1)
	list = append(list, answer{"Slack", more == 0, e})
	l, e = turn.Ranks(d, stocks, -1)
	return append(list, answer{"Ranks", len(l) == 0, e})
}

// limited asks all functions with a limit about a day, with a cloth that is not valid.
func limited(d api.TurnDay, stocks, limit int) []answer {
	stocks, e := turn.Fewest(d, limit)
	list := []answer{{"Fewest", stocks == 0, e}}
	l, e := turn.Proof(d, 1, limit)
	list = append(list, answer{"Proof", len(l) == 0, e})
	more, e := turn.Slack(d, 1, limit, -1)
	list = append(list, answer{"Slack", more == 0, e})
	l, e = turn.Ranks(d, 1, limit)
	return append(list, answer{"Ranks", len(l) == 0, e})
}

// answers asks all functions, but Check, about a day, with other arguments that are not valid.
func answers(d api.TurnDay) []answer {
	l, e := turn.Order(d)
	list := append(stocked(d, 0), answer{"Order", len(l) == 0, e})
	stocks, e := turn.Fewest(d, -1)
	list = append(list, answer{"Fewest", stocks == 0, e})
	l, e = turn.Jumped(d, []int{-1})
	return append(list, answer{"Jumped", len(l) == 0, e})
}

// check fails unless all functions have the error of Check of some days first.
func check(t *testing.T, want api.Errno, list ...api.TurnDay) {
	t.Helper()
	for _, d := range list {
		if e := turn.Check(d); e != want {
			t.Errorf("%v: Check = %d, not %d", d, e, want)
		}
		if want == api.OK {
			continue
		}
		for _, a := range answers(d) {
			if a.e != want || !a.empty {
				t.Errorf("%v: %s = %d, empty %v, not %d", d, a.name, a.e, a.empty, want)
			}
		}
	}
}

// ranked is the example with other ranks, and by one is a day of a cloth of one of six weavers.
func ranked(ranks ...int) api.TurnDay {
	return set(example(), func(d *api.TurnDay) { d.Ranks = ranks })
}

func by(c api.TurnCloth) api.TurnDay { return day(samples.UpTo(api.MaxTurnWeavers), c) }

// TestCheckRanks is for P4.1: each limit of ranks can be reached, and is exceeded by one; each rank is there once.
func TestCheckRanks(t *testing.T) {
	check(t, api.OK,
		day([]int{0}), day([]int{1, 0}), day([]int{3, 5, 0, 1, 4, 2}), ranked(0, 1), ranked(2, 0, 1), ranked(0, 1, 2, 3, 4, 5))
	check(t, api.ErrForm,
		api.TurnDay{}, day(nil), day([]int{}), day([]int{1}), day([]int{-1}), day([]int{0, 0}), day([]int{1, 1}), day([]int{0, 2}),
		day([]int{1, 2}), day([]int{-1, 0}), day([]int{0, 1, 1}), day([]int{0, 0, 1}), day([]int{0, 1, 3}), day(samples.UpTo(7)),
		day([]int{6, 1, 2, 3, 4, 5, 0}), ranked(0, 0), ranked(), ranked(math.MinInt, 0), ranked(0, math.MaxInt), ranked(samples.UpTo(1000)...))
}

// TestCheckNumberOfCloths is for P4.1: there may be no cloths, and ten, but not eleven.
func TestCheckNumberOfCloths(t *testing.T) {
	check(t, api.OK, crowd(0), crowd(1), crowd(10))
	check(t, api.ErrLong, crowd(11), crowd(1000))
}

// TestCheckCloths is for P4.1: each limit of cloths can be reached, and is exceeded by one.
func TestCheckCloths(t *testing.T) {
	check(t, api.OK,
		by(cloth(0, 0, 1, 1)), by(cloth(5, 0, 1, 20)), by(cloth(0, 200, 20, 20)), by(cloth(5, 200, 7, 8)))
	check(t, api.ErrArg,
		by(cloth(6, 0, 1, 1)), by(cloth(-1, 0, 1, 1)), by(cloth(0, -1, 1, 1)), by(cloth(0, 201, 1, 1)),
		by(cloth(0, 0, 0, 0)), by(cloth(0, 0, 0, 1)), by(cloth(0, 0, 20, 21)), by(cloth(0, 0, 21, 21)), by(cloth(0, 0, 5, 4)), by(cloth(0, 0, -5, 5)),
		by(cloth(math.MinInt, 0, 1, 1)), by(cloth(math.MaxInt, 0, 1, 1)), by(cloth(0, math.MinInt, 1, 1)), by(cloth(0, math.MaxInt, 1, 1)),
		by(cloth(0, 0, math.MinInt, math.MaxInt)), by(cloth(0, 0, math.MaxInt, math.MinInt)), by(cloth(0, 0, 1, math.MaxInt)), by(cloth(0, 0, math.MinInt, 1)),
		day([]int{0}, cloth(1, 0, 1, 1)), day([]int{1, 0}, cloth(2, 0, 1, 1)),
		set(example(), func(d *api.TurnDay) { d.Cloths[3].Weaver = 2 }), set(example(), func(d *api.TurnDay) { d.Cloths[0].Hours.Low = 7 }))
}

// TestCheckOrder is for P4.1 and R1: ranks come before how many cloths there are, and this comes before what they are.
func TestCheckOrder(t *testing.T) {
	bad := set(crowd(11), func(d *api.TurnDay) { d.Cloths[10].Hours.Low = 0 })
	check(t, api.ErrLong, bad)
	bad.Ranks = []int{1}
	check(t, api.ErrForm, bad)
	bad.Cloths = bad.Cloths[10:]
	check(t, api.ErrForm, bad)
	bad.Ranks = []int{0}
	check(t, api.ErrArg, bad)
}

// TestStocks is for P4.1 and R1: each limit of stocks can be reached, and is exceeded by one. Wrong stocks come before all else but the errors of Check.
func TestStocks(t *testing.T) {
	for _, stocks := range []int{0, 6, -1, math.MinInt, math.MaxInt} {
		for _, d := range []api.TurnDay{example(), crowd(0)} {
			for _, a := range stocked(d, stocks) {
				if a.e != api.ErrRange || !a.empty {
					t.Errorf("%s = %d, empty %v, with %d stocks", a.name, a.e, a.empty, stocks)
				}
			}
		}
	}
	for _, stocks := range []int{1, 5} {
		for _, a := range stocked(example(), stocks) {
			want := map[string]api.Errno{"Proof": api.ErrRange, "Joined": api.ErrArg, "Slack": api.ErrRange, "Ranks": api.ErrRange}[a.name]
			if a.e != want {
				t.Errorf("%s = %d, not %d, with %d stocks", a.name, a.e, want, stocks)
			}
		}
	}
}

// TestLimits is for P4.1 and R1: the least limit and the greatest one are valid, and the ones beyond are not. A wrong limit comes before a wrong cloth.
func TestLimits(t *testing.T) {
	for _, limit := range []int{-1, 501, math.MinInt, math.MaxInt} {
		for _, d := range []api.TurnDay{example(), crowd(0)} {
			for _, a := range limited(d, 1, limit) {
				if a.e != api.ErrRange || !a.empty {
					t.Errorf("%s = %d, empty %v, with the limit %d", a.name, a.e, a.empty, limit)
				}
			}
		}
	}
	for limit, wants := range map[int]map[string]api.Errno{
		0:   {"Slack": api.ErrNone, "Ranks": api.ErrState},
		500: {"Slack": api.ErrNone, "Proof": api.ErrTwice},
	} {
		for _, a := range limited(example(), 1, limit) {
			if a.e != wants[a.name] {
				t.Errorf("%s = %d, not %d, with the limit %d", a.name, a.e, wants[a.name], limit)
			}
		}
	}
}

// TestOrder is for P4.2: cloths are taken by when they come, then in turn, then by rank.
func TestOrder(t *testing.T) {
	at := func(weaver, comes int) api.TurnCloth { return cloth(weaver, comes, 1, 1) }
	for name, x := range map[string]struct {
		d    api.TurnDay
		want []int
	}{
		"none":               {crowd(0), nil},
		"one":                {crowd(1), []int{0}},
		"of one weaver":      {crowd(10), samples.UpTo(10)},
		"by their hours":     {day([]int{0}, at(0, 200), at(0, 7), at(0, 0)), []int{2, 1, 0}},
		"by ranks":           {day([]int{2, 0, 1}, at(0, 3), at(1, 3), at(2, 3)), []int{1, 2, 0}},
		"hours before ranks": {day([]int{1, 0}, at(1, 1), at(0, 0)), []int{1, 0}},
		"in turn":            {day([]int{0, 1}, at(0, 0), at(0, 0), at(0, 0), at(1, 0)), []int{0, 3, 1, 2}},
		"turns before ranks": {day([]int{1, 0}, at(1, 0), at(1, 0), at(0, 0), at(0, 0), at(1, 0)), []int{0, 2, 1, 3, 4}},
		"turns of an hour":   {day([]int{1, 0}, at(1, 0), at(1, 5), at(0, 5), at(1, 5), at(0, 5)), []int{0, 1, 2, 3, 4}},
		"turns of others":    {day([]int{0, 1, 2}, at(2, 0), at(1, 0), at(0, 0), at(2, 0), at(0, 0)), []int{2, 1, 0, 4, 3}},
	} {
		if l := order(t, x.d); !slices.Equal(l, x.want) {
			t.Errorf("%s: Order = %v, not %v", name, l, x.want)
		}
	}
}

// TestStarts is for P4.3: cloths are taken as soon as they have come, a stock is free, and the one before is taken.
func TestStarts(t *testing.T) {
	for name, x := range map[string]struct {
		d      api.TurnDay
		stocks int
		want   []api.Span
	}{
		"none":                 {crowd(0), 1, nil},
		"late":                 {day([]int{0}, cloth(0, 200, 1, 20)), 5, []api.Span{to(200, 200)}},
		"at once":              {one(5, 5, 5, 5, 5), 5, make([]api.Span, 5)},
		"one too many":         {one(5, 4, 3, 6, 7, 1), 5, []api.Span{{}, {}, {}, {}, {}, to(3, 3)}},
		"the stock free first": {one(5, 2, 4, 1), 2, []api.Span{{}, {}, to(2, 2), to(5, 5)}},
		"as it is done":        {day([]int{0}, cloth(0, 0, 3, 5), cloth(0, 5, 1, 1)), 1, []api.Span{{}, to(5, 5)}},
		"an hour before":       {day([]int{0}, cloth(0, 0, 3, 6), cloth(0, 5, 1, 1)), 1, []api.Span{{}, to(5, 6)}},
		"by the order":         {day([]int{1, 0}, cloth(0, 0, 2, 3), cloth(1, 0, 4, 6)), 1, []api.Span{to(4, 6), {}}},
	} {
		if l := starts(t, x.d, x.stocks); !slices.Equal(l, x.want) {
			t.Errorf("%s: Starts = %v, not %v", name, l, x.want)
		}
	}
	latest := day([]int{0}, slices.Repeat([]api.TurnCloth{cloth(0, 200, 20, 20)}, 10)...)
	if l := starts(t, latest, 1); l[9] != to(380, 380) {
		t.Errorf("the last of ten is taken at %v", l[9])
	}
}

// TestWaits is for P4.4: the longest wait is that of the first one of several in the order, not by their numbers; without cloths there is none.
func TestWaits(t *testing.T) {
	for name, x := range map[string]struct {
		d                    api.TurnDay
		stocks, cloth, hours int
		e                    api.Errno
	}{
		"none":          {crowd(0), 1, 0, 0, api.ErrNone},
		"nobody waits":  {day([]int{1, 0}, cloth(0, 0, 1, 9), cloth(1, 0, 1, 9)), 2, 1, 0, api.OK},
		"at its hour":   {day([]int{0}, cloth(0, 9, 1, 1), cloth(0, 0, 1, 9)), 1, 1, 0, api.OK},
		"the first":     {day([]int{2, 1, 0}, cloth(0, 0, 3, 3), cloth(1, 0, 3, 3), cloth(2, 0, 3, 3), cloth(0, 3, 1, 1)), 2, 0, 3, api.OK},
		"in the order":  {day([]int{0}, cloth(0, 3, 1, 1), cloth(0, 0, 1, 3), cloth(0, 1, 2, 2)), 1, 2, 2, api.OK},
		"at the latest": {day([]int{0}, cloth(0, 0, 1, 20), cloth(0, 1, 1, 1)), 1, 1, 19, api.OK},
	} {
		cloth, hours, e := turn.Waits(x.d, x.stocks)
		if cloth != x.cloth || hours != x.hours || e != x.e {
			t.Errorf("%s: Waits = %d, %d, %d, not %d, %d, %d", name, cloth, hours, e, x.cloth, x.hours, x.e)
		}
	}
}

// TestEnds is for P4.5: all are done when the one that is done last is, which need not be the one that was taken last.
func TestEnds(t *testing.T) {
	for name, x := range map[string]struct {
		d      api.TurnDay
		stocks int
		want   api.Span
	}{
		"none":           {crowd(0), 1, to(0, 0)},
		"one":            {day([]int{0}, cloth(0, 200, 1, 20)), 5, to(201, 220)},
		"an early one":   {day([]int{0}, cloth(0, 0, 9, 19), cloth(0, 1, 2, 3)), 2, to(9, 19)},
		"one of several": {day([]int{0}, cloth(0, 0, 1, 9), cloth(0, 1, 4, 6)), 2, to(5, 9)},
		"the latest":     {day([]int{0}, slices.Repeat([]api.TurnCloth{cloth(0, 200, 1, 20)}, 10)...), 1, to(210, 400)},
	} {
		if s := ends(t, x.d, x.stocks); s != x.want {
			t.Errorf("%s: Ends = %v, not %v", name, s, x.want)
		}
	}
}

// TestFewest is for P4.6: one stock is needed at least, and as many as cloths at most, though there may be more than MaxTurnStocks.
func TestFewest(t *testing.T) {
	for name, x := range map[string]struct {
		d           api.TurnDay
		limit, want int
	}{
		"none":           {crowd(0), 0, 1},
		"one":            {crowd(1), 0, 1},
		"ten at once":    {crowd(10), 0, 10},
		"ten in turn":    {crowd(10), 9, 1},
		"not quite":      {crowd(10), 8, 2},
		"any limit":      {one(slices.Repeat([]int{20}, 10)...), 500, 1},
		"just any":       {one(slices.Repeat([]int{20}, 10)...), 180, 1},
		"one after all":  {day([]int{0}, cloth(0, 0, 1, 5), cloth(0, 5, 1, 5)), 0, 1},
		"one before":     {day([]int{0}, cloth(0, 0, 1, 6), cloth(0, 5, 1, 5)), 0, 2},
		"possibly":       {day([]int{0}, cloth(0, 0, 1, 6), cloth(0, 5, 1, 5)), 1, 1},
		"with the order": {day([]int{0, 1}, cloth(1, 0, 9, 9), cloth(0, 0, 2, 2)), 2, 1},
	} {
		if stocks := fewest(t, x.d, x.limit); stocks != x.want {
			t.Errorf("%s: Fewest(%d) = %d, not %d", name, x.limit, stocks, x.want)
		}
	}
}

// TestProof is for P4.7: the fewest cloths, the smallest list of several, in the order that they have among all; without a long wait there are none.
func TestProof(t *testing.T) {
	turns := day([]int{0, 1}, cloth(0, 0, 1, 1), cloth(0, 0, 9, 9), cloth(1, 0, 2, 2), cloth(1, 0, 1, 1))
	for name, x := range map[string]struct {
		d             api.TurnDay
		stocks, limit int
		want          []int
		e             api.Errno
	}{
		"none":                  {crowd(0), 1, 0, nil, api.ErrTwice},
		"one":                   {crowd(1), 1, 0, nil, api.ErrTwice},
		"two":                   {crowd(10), 1, 0, []int{0, 1}, api.OK},
		"with more stocks":      {crowd(10), 5, 0, samples.UpTo(6), api.OK},
		"as many as stocks":     {crowd(5), 5, 0, nil, api.ErrTwice},
		"all":                   {crowd(10), 1, 8, samples.UpTo(10), api.OK},
		"as long as the limit":  {crowd(10), 1, 9, nil, api.ErrTwice},
		"the greatest limit":    {one(slices.Repeat([]int{20}, 10)...), 1, 500, nil, api.ErrTwice},
		"long ones":             {one(1, 1, 5, 1, 4, 1, 1), 1, 8, []int{2, 4, 5}, api.OK},
		"the smallest":          {one(1, 5, 1, 5, 5, 1), 1, 9, []int{1, 3, 4}, api.OK},
		"the order of all":      {turns, 1, 8, []int{1, 3}, api.OK},
		"the order of them too": {turns, 1, 9, []int{0, 1, 3}, api.OK},
		"possibly":              {day([]int{0}, cloth(0, 0, 1, 2), cloth(0, 1, 1, 9)), 1, 0, []int{0, 1}, api.OK},
	} {
		if l, e := turn.Proof(x.d, x.stocks, x.limit); !slices.Equal(l, x.want) || e != x.e {
			t.Errorf("%s: Proof = %v, %d, not %v, %d", name, l, e, x.want, x.e)
		}
	}
}

// TestJumped is for P4.8: the fewest cloths, the smallest list of several.
func TestJumped(t *testing.T) {
	for name, x := range map[string]struct {
		d          api.TurnDay
		seen, want []int
	}{
		"none":           {crowd(0), nil, nil},
		"one":            {crowd(1), []int{0}, nil},
		"as the custom":  {example(), []int{2, 0, 1, 3}, nil},
		"two":            {crowd(2), []int{1, 0}, []int{0}},
		"the smallest":   {crowd(4), []int{1, 0, 3, 2}, []int{0, 2}},
		"to the front":   {crowd(5), []int{4, 0, 1, 2, 3}, []int{4}},
		"passed over":    {crowd(5), []int{1, 2, 3, 4, 0}, []int{0}},
		"all but one":    {crowd(4), []int{3, 2, 1, 0}, []int{0, 1, 2}},
		"ten":            {crowd(10), []int{9, 8, 7, 6, 5, 4, 3, 2, 1, 0}, samples.UpTo(9)},
		"by the numbers": {example(), []int{3, 1, 0, 2}, []int{0, 1, 2}},
	} {
		if l, e := turn.Jumped(x.d, x.seen); !slices.Equal(l, x.want) || e != api.OK {
			t.Errorf("%s: Jumped = %v, %d, not %v", name, l, e, x.want)
		}
	}
}

// TestJumpedOfNoOrder is for P4.8: what is seen must have each cloth once.
func TestJumpedOfNoOrder(t *testing.T) {
	for _, x := range []struct {
		d    api.TurnDay
		seen []int
	}{
		{crowd(0), []int{0}}, {crowd(1), nil}, {crowd(1), []int{1}}, {crowd(1), []int{-1}}, {crowd(1), []int{0, 0}},
		{example(), []int{0, 1, 2}}, {example(), []int{0, 1, 2, 2}}, {example(), []int{0, 1, 2, 4}}, {example(), []int{1, 2, 3, 4}},
		{example(), []int{0, 1, 2, 3, 0}}, {example(), []int{0, 1, 2, 3, 4}}, {example(), []int{-1, 0, 1, 2}}, {example(), nil},
		{example(), []int{0, 1, 2, math.MaxInt}}, {example(), []int{math.MinInt, 1, 2, 3}}, {example(), samples.UpTo(1000)},
	} {
		if l, e := turn.Jumped(x.d, x.seen); len(l) != 0 || e != api.ErrForm {
			t.Errorf("%v: Jumped of %v = %v, %d", x.d, x.seen, l, e)
		}
	}
}

// TestJoined is for P4.9: whose wait grows most, and the first one of several, by its number.
func TestJoined(t *testing.T) {
	long := day([]int{0, 1}, cloth(0, 0, 20, 20), cloth(0, 0, 20, 20), cloth(1, 0, 1, 1), cloth(1, 0, 1, 1))
	tied := day([]int{0, 2, 1}, cloth(0, 0, 2, 2), cloth(1, 0, 2, 2), cloth(2, 0, 2, 2), cloth(0, 0, 1, 3))
	second := day([]int{0, 1}, cloth(0, 0, 1, 1), cloth(0, 0, 5, 7), cloth(1, 0, 1, 1), cloth(0, 0, 9, 9), cloth(1, 0, 1, 1))
	for name, x := range map[string]struct {
		d                         api.TurnDay
		stocks, a, b, cloth, more int
		e                         api.Errno
	}{
		"the next one":       {long, 1, 0, 1, 2, 20, api.OK},
		"the second one":     {long, 1, 1, 0, 2, 20, api.OK},
		"with two":           {long, 2, 0, 1, 0, 0, api.ErrNone},
		"of several":         {tied, 1, 0, 3, 1, 3, api.OK},
		"an own one":         {day([]int{0}, cloth(0, 0, 5, 5), cloth(0, 0, 5, 5), cloth(0, 1, 5, 5)), 2, 0, 1, 0, 0, api.ErrNone},
		"none other":         {one(1, 1), 1, 0, 1, 0, 0, api.ErrNone},
		"another turn":       {second, 1, 0, 1, 4, 9, api.OK},
		"an earlier turn":    {second, 1, 3, 0, 4, 9, api.OK},
		"others before them": {day([]int{1, 0}, cloth(0, 0, 5, 5), cloth(0, 0, 5, 5), cloth(1, 0, 5, 5)), 1, 0, 1, 0, 0, api.ErrNone},
		"a later one":        {day([]int{0, 1}, cloth(0, 9, 5, 5), cloth(0, 9, 5, 5), cloth(1, 10, 1, 1), cloth(1, 15, 1, 1)), 2, 0, 1, 0, 0, api.ErrNone},
	} {
		cloth, more, e := turn.Joined(x.d, x.stocks, x.a, x.b)
		if cloth != x.cloth || more != x.more || e != x.e {
			t.Errorf("%s: Joined = %d, %d, %d, not %d, %d, %d", name, cloth, more, e, x.cloth, x.more, x.e)
		}
	}
}

// TestJoinedOfOthers is for P4.9: two cloths are brought as one only if they are two, of one weaver and of one hour.
func TestJoinedOfOthers(t *testing.T) {
	for _, x := range [][2]int{
		{0, 0}, {1, 1}, {0, 2}, {2, 0}, {2, 3}, {3, 2}, {0, 3}, {-1, 0}, {0, -1}, {4, 0}, {0, 4}, {3, 4}, {-1, -1}, {4, 5},
		{math.MinInt, 0}, {0, math.MaxInt}, {math.MinInt, math.MaxInt},
	} {
		if cloth, more, e := turn.Joined(example(), 1, x[0], x[1]); cloth != 0 || more != 0 || e != api.ErrArg {
			t.Errorf("Joined of %v = %d, %d, %d", x, cloth, more, e)
		}
	}
	if cloth, more, e := turn.Joined(crowd(0), 1, 0, 1); cloth != 0 || more != 0 || e != api.ErrArg {
		t.Errorf("Joined of none = %d, %d, %d", cloth, more, e)
	}
}

// TestSlack is for P4.10: what is between the end of a cloth's stay and the last hour that the others can wait for, up to MaxTurnLimit.
func TestSlack(t *testing.T) {
	two := day([]int{0}, cloth(0, 0, 2, 5), cloth(0, 7, 1, 1))
	for name, x := range map[string]struct {
		d                    api.TurnDay
		stocks, limit, cloth int
		want                 int
		e                    api.Errno
	}{
		"until the next comes": {two, 1, 0, 0, 2, api.OK},
		"until it waits":       {two, 1, 3, 0, 5, api.OK},
		"the last one":         {two, 1, 0, 1, 500, api.OK},
		"another stock":        {two, 2, 0, 0, 500, api.OK},
		"the greatest":         {two, 1, 498, 0, 500, api.OK},
		"just not":             {two, 1, 497, 0, 499, api.OK},
		"none":                 {one(3, 3), 1, 3, 0, 0, api.OK},
		"one hour":             {one(3, 3), 1, 4, 0, 1, api.OK},
		"not now":              {one(3, 3), 1, 2, 0, 0, api.ErrState},
		"not now, the last":    {one(3, 3), 1, 2, 1, 0, api.ErrState},
		"no cloth":             {one(3, 3), 1, 3, 2, 0, api.ErrNone},
		"no cloth, nor now":    {one(3, 3), 1, 2, 2, 0, api.ErrNone},
		"below 0":              {two, 1, 0, -1, 0, api.ErrNone},
		"the least":            {two, 1, 0, math.MinInt, 0, api.ErrNone},
		"the most":             {two, 1, 0, math.MaxInt, 0, api.ErrNone},
		"no cloths":            {crowd(0), 1, 0, 0, 0, api.ErrNone},
	} {
		if more, e := turn.Slack(x.d, x.stocks, x.limit, x.cloth); more != x.want || e != x.e {
			t.Errorf("%s: Slack = %d, %d, not %d, %d", name, more, e, x.want, x.e)
		}
	}
}

// TestRanks is for P4.11: the smallest list, whatever the ranks of the day are.
func TestRanks(t *testing.T) {
	long := cloth(1, 0, 9, 9)
	pairs := day(samples.UpTo(6))
	for i := range 5 {
		pairs.Cloths = append(pairs.Cloths, cloth(i, 50*i, 9, 9), cloth(i+1, 50*i, 1, 1))
	}
	for name, x := range map[string]struct {
		d             api.TurnDay
		stocks, limit int
		want          []int
		e             api.Errno
	}{
		"no cloths":     {day([]int{3, 1, 2, 0}), 1, 0, []int{0, 1, 2, 3}, api.OK},
		"one weaver":    {crowd(2), 1, 1, []int{0}, api.OK},
		"not by any":    {crowd(2), 1, 0, nil, api.ErrState},
		"the short one": {day([]int{1, 0}, cloth(0, 0, 2, 2), long), 1, 2, []int{0, 1}, api.OK},
		"not the first": {day([]int{0, 1}, long, long, cloth(0, 0, 2, 2)), 1, 11, []int{0, 1}, api.OK},
		"the long last": {day([]int{0, 1, 2}, cloth(2, 0, 2, 2), long, cloth(0, 0, 5, 5)), 1, 7, []int{0, 2, 1}, api.OK},
		"the other one": {day([]int{0, 1}, cloth(0, 0, 9, 9), cloth(1, 0, 3, 3)), 1, 3, []int{1, 0}, api.OK},
		"not needed":    {day([]int{0, 2, 1}, cloth(0, 0, 9, 9), cloth(1, 0, 3, 3)), 1, 3, []int{1, 0, 2}, api.OK},
		"just not":      {day([]int{0, 2, 1}, cloth(0, 0, 9, 9), cloth(1, 0, 3, 3)), 1, 2, nil, api.ErrState},
		"the last list": {pairs, 1, 5, []int{5, 4, 3, 2, 1, 0}, api.OK},
	} {
		if l, e := turn.Ranks(x.d, x.stocks, x.limit); !slices.Equal(l, x.want) || e != x.e {
			t.Errorf("%s: Ranks = %v, %d, not %v, %d", name, l, e, x.want, x.e)
		}
	}
}

package soap_test

import (
	"math"
	"slices"
	"testing"

	"walkmill/api"
	"walkmill/samples"
	"walkmill/soap"
)

// answer is a result of any function, for tests that look at errors: whether each other result is its zero value, and the error.
type answer struct {
	name  string
	empty bool
	e     api.Errno
}

// mixed asks the functions with a mix.
func mixed(s []api.SoapSort, c api.SoapCloth, mix []int) []answer {
	surely, possibly, stains, e := soap.Scours(s, c, mix)
	list := []answer{{"Scours", !surely && !possibly && !stains, e}}
	span, e := soap.Over(s, c, mix)
	return append(list, answer{"Over", span == api.Span{}, e})
}

// clothed asks the functions with a store and one cloth, with other arguments that are not valid.
func clothed(s []api.SoapSort, c api.SoapCloth) []answer {
	mix, price, e := soap.Cheapest(s, c)
	list := append(mixed(s, c, []int{-1}), answer{"Cheapest", len(mix) == 0 && price == 0, e})
	price, e = soap.Dear(s, c, -1)
	return append(list, answer{"Dear", price == 0, e})
}

// stored asks the functions with a store, but Check, with other arguments that are not valid.
func stored(s []api.SoapSort) []answer {
	l, e := soap.Serves(s, make([]api.SoapCloth, 7))
	return append(clothed(s, api.SoapCloth{}), answer{"Serves", len(l) == 0, e})
}

// expect fails unless all answers are empty, with an error.
func expect(t *testing.T, about any, want api.Errno, list ...answer) {
	t.Helper()
	for _, a := range list {
		if a.e != want || !a.empty {
			t.Errorf("%v: %s = %d, empty %v, not %d", about, a.name, a.e, a.empty, want)
		}
	}
}

// check fails unless all functions with a store have the error of Check of some stores first.
func check(t *testing.T, want api.Errno, list ...[]api.SoapSort) {
	t.Helper()
	for _, s := range list {
		if e := soap.Check(s); e != want {
			t.Errorf("%v: Check = %d, not %d", s, e, want)
		}
		if want != api.OK {
			expect(t, s, want, stored(s)...)
		}
	}
}

// one is a store of one sort.
func one(takes api.Span, price, stains, has int) []api.SoapSort {
	return []api.SoapSort{sort(takes, price, stains, has)}
}

// TestCheck is for P6.1 and R1: a store is from one to four sorts, which comes before what they are.
func TestCheck(t *testing.T) {
	check(t, api.OK, store(), make([]api.SoapSort, 1), make([]api.SoapSort, 4))
	check(t, api.ErrNone, nil, []api.SoapSort{})
	bad := one(to(-1, 0), 0, 0, 0)
	check(t, api.ErrLong, make([]api.SoapSort, 5), make([]api.SoapSort, 1000), slices.Repeat(bad, 5))
	check(t, api.ErrArg, bad, slices.Repeat(bad, 4), append(store(), bad...), append(bad, store()...))
}

// TestCheckSorts is for P6.1: each limit of a sort can be reached, and is exceeded by one.
func TestCheckSorts(t *testing.T) {
	check(t, api.OK,
		one(to(0, 0), 0, 0, 0), one(to(200, 200), 500, 50, 12), one(to(0, 200), 0, 0, 1),
		one(to(1, 1), 500, 0, 0), one(to(1, 1), 0, 50, 0), one(to(1, 1), 0, 0, 12))
	check(t, api.ErrArg,
		one(to(-1, 0), 0, 0, 0), one(to(-1, -1), 0, 0, 0), one(to(200, 201), 0, 0, 0), one(to(201, 201), 0, 0, 0), one(to(5, 4), 0, 0, 0),
		one(to(1, 1), -1, 0, 0), one(to(1, 1), 501, 0, 0), one(to(1, 1), 0, -1, 0), one(to(1, 1), 0, 51, 0),
		one(to(1, 1), 0, 0, -1), one(to(1, 1), 0, 0, 13),
		one(to(math.MinInt, 0), 0, 0, 0), one(to(0, math.MaxInt), 0, 0, 0), one(to(math.MaxInt, math.MinInt), 0, 0, 0),
		one(to(1, 1), math.MinInt, 0, 0), one(to(1, 1), math.MaxInt, 0, 0), one(to(1, 1), 0, math.MinInt, 0), one(to(1, 1), 0, math.MaxInt, 0),
		one(to(1, 1), 0, 0, math.MinInt), one(to(1, 1), 0, 0, math.MaxInt))
}

// faulty are cloths that are not valid, each by one of its limits.
func faulty() []api.SoapCloth {
	return []api.SoapCloth{
		{}, cloth(to(0, 1), to(0, 0), 0), cloth(to(0, 0), to(0, 0), 0), cloth(to(2000, 2001), to(0, 0), 0), cloth(to(2001, 2001), to(0, 0), 0), cloth(to(5, 4), to(0, 0), 0),
		cloth(to(1, 1), to(-1, 0), 0), cloth(to(1, 1), to(-1, -1), 0), cloth(to(1, 1), to(300, 301), 0), cloth(to(1, 1), to(301, 301), 0), cloth(to(1, 1), to(3, 2), 0),
		cloth(to(1, 1), to(0, 0), -1), cloth(to(1, 1), to(0, 0), 501),
		cloth(to(math.MinInt, 1), to(0, 0), 0), cloth(to(1, math.MaxInt), to(0, 0), 0), cloth(to(math.MaxInt, math.MinInt), to(0, 0), 0),
		cloth(to(1, 1), to(math.MinInt, 0), 0), cloth(to(1, 1), to(0, math.MaxInt), 0), cloth(to(1, 1), to(0, 0), math.MinInt), cloth(to(1, 1), to(0, 0), math.MaxInt),
	}
}

// TestClothErrors is for P6.1, P6.2 and R1: a cloth that is not valid comes after the store, and before all else.
func TestClothErrors(t *testing.T) {
	for _, c := range faulty() {
		span, e := soap.Grease(c)
		expect(t, c, api.ErrRange, append(clothed(store(), c), answer{"Grease", span == api.Span{}, e})...)
		l, e := soap.Serves(store(), []api.SoapCloth{greasy(), c})
		expect(t, c, api.ErrRange, answer{"Serves", len(l) == 0, e})
	}
}

// TestGrease is for P6.2: what is left of a whole ounce is one more; each limit of a cloth can be reached.
func TestGrease(t *testing.T) {
	for _, x := range []struct {
		weight, grease, want api.Span
	}{
		{to(1, 1), to(0, 0), to(0, 0)},
		{to(1, 1), to(1, 1), to(1, 1)},
		{to(1, 1), to(0, 300), to(0, 1)},
		{to(999, 1000), to(1, 1), to(1, 1)},
		{to(1000, 1001), to(1, 1), to(1, 2)},
		{to(10, 20), to(100, 150), to(1, 3)},
		{to(10, 20), to(100, 151), to(1, 4)},
		{to(1, 2000), to(0, 300), to(0, 600)},
		{to(2000, 2000), to(300, 300), to(600, 600)},
		{to(1999, 1999), to(299, 299), to(598, 598)}, // 597.701
	} {
		if s, e := soap.Grease(cloth(x.weight, x.grease, 500)); s != x.want || e != api.OK {
			t.Errorf("Grease of %v, %v = %v, %d, not %v", x.weight, x.grease, s, e, x.want)
		}
	}
}

// TestMixErrors is for P6.1 and R1: a mix has a number for each sort, from 0 to what there is of it.
func TestMixErrors(t *testing.T) {
	for _, mix := range [][]int{
		nil, {}, {0}, {0, 0, 0}, make([]int, 1000), {-1, 0}, {0, -1}, {11, 0}, {0, 6}, {11, 6},
		{math.MinInt, 0}, {math.MaxInt, 0}, {0, math.MinInt}, {0, math.MaxInt},
	} {
		expect(t, mix, api.ErrForm, mixed(store(), greasy(), mix)...)
		expect(t, mix, api.ErrRange, mixed(store(), api.SoapCloth{}, mix)...)
		expect(t, mix, api.ErrNone, mixed(nil, api.SoapCloth{}, mix)...)
	}
	for _, mix := range [][]int{{0, 0}, {10, 0}, {0, 5}, {10, 5}} {
		over(t, store(), greasy(), mix)
		if _, _, _, e := soap.Scours(store(), greasy(), mix); e != api.OK {
			t.Errorf("Scours of %v = %d", mix, e)
		}
	}
}

// TestScours is for P6.3 and P6.4: a mix scours that takes just as much as there is, and does not stain if it stains just as much as the cloth bears.
func TestScours(t *testing.T) {
	for name, x := range map[string]struct {
		s                        []api.SoapSort
		c                        api.SoapCloth
		mix                      []int
		over                     api.Span
		surely, possibly, stains bool
	}{
		"nothing, no grease": {store(), has(0, 0), []int{0, 0}, to(0, 0), true, true, false},
		"nothing":            {store(), has(1, 0), []int{0, 0}, to(-1, -1), false, false, false},
		"just so":            {one(to(5, 5), 0, 3, 9), has(20, 12), []int{4}, to(0, 0), true, true, false},
		"too little":         {one(to(5, 5), 0, 3, 9), has(21, 12), []int{4}, to(-1, -1), false, false, false},
		"it stains":          {one(to(5, 5), 0, 3, 9), has(20, 11), []int{4}, to(0, 0), true, true, true},
		"both":               {one(to(5, 5), 0, 3, 9), has(21, 11), []int{4}, to(-1, -1), false, false, true},
		"just possibly":      {one(to(4, 5), 0, 3, 9), has(20, 12), []int{4}, to(-4, 0), false, true, false},
		"just not":           {one(to(4, 5), 0, 3, 9), has(21, 12), []int{4}, to(-5, -1), false, false, false},
		"just surely":        {one(to(4, 5), 0, 3, 9), has(16, 12), []int{4}, to(0, 4), true, true, false},
		"unknown grease":     {one(to(5, 5), 0, 3, 9), cloth(to(100, 200), to(100, 100), 12), []int{2}, to(-10, 0), false, true, false},
		"two sorts":          {store(), has(28, 5), []int{1, 1}, to(0, 6), true, true, false},
		"two sorts, stained": {store(), has(29, 4), []int{1, 1}, to(-1, 5), false, true, true},
		"the most": {slices.Repeat(one(to(0, 200), 500, 50, 12), 4), cloth(to(1, 2000), to(0, 300), 500),
			[]int{12, 12, 12, 12}, to(-600, 9600), false, true, true},
	} {
		if s := over(t, x.s, x.c, x.mix); s != x.over {
			t.Errorf("%s: Over = %v, not %v", name, s, x.over)
		}
		surely, possibly, stains, e := soap.Scours(x.s, x.c, x.mix)
		if surely != x.surely || possibly != x.possibly || stains != x.stains || e != api.OK {
			t.Errorf("%s: Scours = %v, %v, %v, %d", name, surely, possibly, stains, e)
		}
	}
}

// TestCheapest is for P6.5: the lowest price, the smallest list of several.
func TestCheapest(t *testing.T) {
	same := slices.Repeat(one(to(5, 5), 2, 1, 3), 3)
	for name, x := range map[string]struct {
		s     []api.SoapSort
		c     api.SoapCloth
		want  []int
		price int
	}{
		"no grease":       {store(), has(0, 0), []int{0, 0}, 0},
		"nothing there":   {one(to(5, 5), 0, 0, 0), has(1, 0), nil, 0},
		"not enough":      {one(to(5, 5), 0, 0, 3), has(16, 0), nil, 0},
		"just enough":     {one(to(5, 5), 7, 0, 3), has(15, 0), []int{3}, 21},
		"it takes least":  {one(to(4, 9), 7, 0, 4), has(16, 0), []int{4}, 28},
		"just not stains": {one(to(5, 5), 7, 2, 3), has(15, 6), []int{3}, 21},
		"it stains":       {one(to(5, 5), 7, 2, 3), has(15, 5), nil, 0},
		"the smallest":    {same, has(20, 9), []int{0, 1, 3}, 8},
		"for nothing":     {[]api.SoapSort{sort(to(5, 5), 0, 0, 9), sort(to(3, 3), 0, 0, 2)}, has(6, 0), []int{0, 2}, 0},
		"cheaper, more":   {[]api.SoapSort{sort(to(9, 9), 7, 0, 9), sort(to(3, 3), 2, 0, 9)}, has(9, 0), []int{0, 3}, 6},
		"the dear one":    {[]api.SoapSort{sort(to(9, 9), 7, 0, 9), sort(to(3, 3), 2, 1, 9)}, has(9, 2), []int{1, 0}, 7},
		"not surely":      {one(to(0, 200), 1, 0, 12), has(1, 0), nil, 0},
		"the most":        {slices.Repeat(one(to(10, 10), 500, 10, 12), 4), has(480, 480), []int{12, 12, 12, 12}, 24000},
		"one too few":     {slices.Repeat(one(to(10, 10), 500, 10, 12), 4), has(481, 480), nil, 0},
		"the most stains": {one(to(50, 50), 1, 50, 12), has(500, 500), []int{10}, 10},
	} {
		cheapest(t, name, x.s, x.c, x.want, x.price)
	}
}

// TestDear is for P6.6: the price is looked for in the place of the sort's own, up to MaxSoapPrice.
func TestDear(t *testing.T) {
	pair := func(price, has, other int) []api.SoapSort {
		return []api.SoapSort{sort(to(10, 10), price, 0, has), sort(to(10, 10), other, 2, 9)}
	}
	for name, x := range map[string]struct {
		s      []api.SoapSort
		c      api.SoapCloth
		number int
		want   int
		e      api.Errno
	}{
		"cheaper by one":      {pair(500, 5, 7), has(50, 99), 0, 6, api.OK},
		"its own price":       {pair(0, 5, 7), has(50, 99), 0, 6, api.OK},
		"the other one":       {pair(7, 5, 500), has(50, 99), 1, 6, api.OK},
		"for nothing":         {pair(3, 5, 1), has(50, 99), 0, 0, api.OK},
		"no price":            {pair(3, 5, 0), has(50, 99), 0, 0, api.ErrState},
		"no pounds":           {pair(3, 0, 9), has(50, 99), 0, 0, api.ErrState},
		"no grease":           {pair(3, 5, 9), has(0, 99), 0, 0, api.ErrState},
		"alone":               {one(to(10, 10), 3, 0, 5), has(50, 0), 0, 500, api.OK},
		"alone, not enough":   {one(to(10, 10), 3, 0, 5), has(51, 0), 0, 0, api.ErrState},
		"wanted for stains":   {pair(3, 1, 1), has(50, 9), 0, 500, api.OK},
		"less than wanted":    {pair(3, 1, 1), has(50, 7), 0, 0, api.ErrState},
		"not without":         {pair(3, 9, 1), has(100, 99), 0, 500, api.OK},
		"up to the limit":     {pair(3, 1, 500), has(50, 99), 0, 499, api.OK},
		"saves more":          {[]api.SoapSort{sort(to(20, 20), 3, 0, 1), sort(to(10, 10), 500, 0, 9)}, has(20, 0), 0, 500, api.OK},
		"saves more by a bit": {[]api.SoapSort{sort(to(20, 20), 3, 0, 1), sort(to(10, 10), 251, 0, 9)}, has(20, 0), 0, 500, api.OK},
		"saves just less":     {[]api.SoapSort{sort(to(20, 20), 3, 0, 1), sort(to(10, 10), 250, 0, 9)}, has(20, 0), 0, 499, api.OK},
		"by some pounds":      {[]api.SoapSort{sort(to(10, 10), 0, 0, 9), sort(to(30, 30), 20, 0, 9)}, has(40, 0), 0, 19, api.OK},
	} {
		samples.Value(t, name, x.want, x.e)(soap.Dear(x.s, x.c, x.number))
	}
}

// TestDearErrors is for P6.6 and R1: sort is the number of a sort.
func TestDearErrors(t *testing.T) {
	for _, sort := range []int{-1, 2, math.MinInt, math.MaxInt} {
		samples.Value(t, "Dear", 0, api.ErrNone)(soap.Dear(store(), greasy(), sort))
		samples.Value(t, "Dear of what cannot be scoured", 0, api.ErrNone)(soap.Dear(store(), has(500, 0), sort))
	}
	samples.Value(t, "Dear of the last", 7, api.OK)(soap.Dear(store(), greasy(), 1))
}

// TestServes is for P6.7: each cloth has the cheapest mix of what is left, up to the first one for which there is none.
func TestServes(t *testing.T) {
	s := one(to(10, 10), 3, 1, 12)
	serves(t, "no cloths", s, nil)
	serves(t, "six", s, slices.Repeat([]api.SoapCloth{has(20, 2)}, 6), []int{2}, []int{2}, []int{2}, []int{2}, []int{2}, []int{2})
	serves(t, "not the last", s, slices.Repeat([]api.SoapCloth{has(21, 3)}, 6), []int{3}, []int{3}, []int{3}, []int{3})
	serves(t, "not the first", s, []api.SoapCloth{has(121, 99), has(1, 9)})
	serves(t, "not after it", s, []api.SoapCloth{has(100, 10), has(30, 10), has(10, 10)}, []int{10})
	serves(t, "stained", s, []api.SoapCloth{has(10, 1), has(10, 0), has(10, 1)}, []int{1})
	serves(t, "no grease", one(to(1, 1), 1, 1, 0), []api.SoapCloth{has(0, 0), has(0, 0), has(1, 9), has(0, 0)}, []int{0}, []int{0})
	two := []api.SoapSort{sort(to(10, 10), 3, 0, 4), sort(to(10, 10), 2, 0, 3)}
	serves(t, "the cheap ones first", two, slices.Repeat([]api.SoapCloth{has(20, 0)}, 4), []int{0, 2}, []int{1, 1}, []int{2, 0})
}

// TestServesErrors is for P6.7 and R1: how many cloths there are comes before what they are.
func TestServesErrors(t *testing.T) {
	fails := func(cloths []api.SoapCloth, want api.Errno) {
		t.Helper()
		if l, e := soap.Serves(store(), cloths); len(l) != 0 || e != want {
			t.Errorf("Serves(%v) = %v, %d, not %d", cloths, l, e, want)
		}
	}
	fails(slices.Repeat([]api.SoapCloth{greasy()}, 7), api.ErrFull)
	fails(make([]api.SoapCloth, 7), api.ErrFull)
	fails(make([]api.SoapCloth, 1000), api.ErrFull)
	fails(make([]api.SoapCloth, 6), api.ErrRange)
	// A cloth that is not valid is so also behind one for which there is no mix.
	fails([]api.SoapCloth{has(600, 0), {}}, api.ErrRange)
}

// TestShort is for P6.8: a barrel with just as many pounds as it says is not short.
func TestShort(t *testing.T) {
	for name, x := range map[string]struct {
		b                api.SoapBarrel
		surely, possibly bool
	}{
		"just so":          {barrel(10, 170, 0, to(10, 10)), false, false},
		"an ounce less":    {barrel(10, 169, 0, to(10, 10)), true, true},
		"an ounce more":    {barrel(10, 171, 0, to(10, 10)), false, false},
		"by the scales":    {barrel(10, 172, 3, to(10, 10)), false, true},
		"not by them":      {barrel(10, 173, 3, to(10, 10)), false, false},
		"though of them":   {barrel(10, 166, 3, to(10, 10)), true, true},
		"perhaps not":      {barrel(10, 167, 3, to(10, 10)), false, true},
		"by the wood":      {barrel(10, 170, 0, to(10, 11)), false, true},
		"not by it":        {barrel(10, 171, 0, to(10, 11)), false, false},
		"though of it":     {barrel(10, 169, 0, to(10, 11)), true, true},
		"perhaps less":     {barrel(10, 169, 0, to(9, 10)), false, true},
		"the least":        {barrel(1, 16, 0, to(0, 0)), false, false},
		"nothing":          {barrel(1, 0, 0, to(0, 0)), true, true},
		"less than wood":   {barrel(1, 0, 0, to(2000, 2000)), true, true},
		"the greatest":     {barrel(400, 8400, 0, to(2000, 2000)), false, false},
		"not the greatest": {barrel(400, 8399, 0, to(2000, 2000)), true, true},
		"the widest":       {barrel(400, 8449, 50, to(0, 2000)), false, true},
		"the heaviest":     {barrel(400, 10000, 50, to(0, 2000)), false, false},
	} {
		surely, possibly, e := soap.Short([]api.SoapBarrel{x.b})
		if (len(surely) == 1) != x.surely || (len(possibly) == 1) != x.possibly || e != api.OK {
			t.Errorf("%s: Short = %v, %v, %d", name, surely, possibly, e)
		}
	}
	full, light, unsure := barrel(1, 20, 0, to(0, 0)), barrel(1, 9, 0, to(0, 0)), barrel(1, 16, 1, to(0, 0))
	surely, possibly, e := soap.Short(slices.Repeat([]api.SoapBarrel{unsure, light, full, light}, 3))
	if !slices.Equal(surely, []int{1, 3, 5, 7, 9, 11}) || !slices.Equal(possibly, []int{0, 1, 3, 4, 5, 7, 8, 9, 11}) || e != api.OK {
		t.Errorf("Short of 12 = %v, %v, %d", surely, possibly, e)
	}
	if surely, possibly, e := soap.Short(nil); len(surely)+len(possibly) != 0 || e != api.OK {
		t.Errorf("Short of none = %v, %v, %d", surely, possibly, e)
	}
}

// TestShortErrors is for P6.8 and R1: how many barrels there are comes before what they are; each limit of a barrel is exceeded by one.
func TestShortErrors(t *testing.T) {
	good := barrel(1, 0, 0, to(0, 0))
	fails := func(want api.Errno, l ...api.SoapBarrel) {
		t.Helper()
		surely, possibly, e := soap.Short(l)
		expect(t, l, want, answer{"Short", len(surely)+len(possibly) == 0, e})
	}
	fails(api.ErrLong, slices.Repeat([]api.SoapBarrel{good}, 13)...)
	fails(api.ErrLong, make([]api.SoapBarrel, 13)...)
	fails(api.ErrArg, make([]api.SoapBarrel, 12)...)
	for _, b := range []api.SoapBarrel{
		barrel(0, 0, 0, to(0, 0)), barrel(401, 0, 0, to(0, 0)), barrel(1, -1, 0, to(0, 0)), barrel(1, 10001, 0, to(0, 0)), barrel(1, 0, -1, to(0, 0)), barrel(1, 0, 51, to(0, 0)),
		barrel(1, 0, 0, to(-1, 0)), barrel(1, 0, 0, to(-1, -1)), barrel(1, 0, 0, to(2000, 2001)), barrel(1, 0, 0, to(2001, 2001)), barrel(1, 0, 0, to(5, 4)),
		barrel(math.MinInt, 0, 0, to(0, 0)), barrel(math.MaxInt, 0, 0, to(0, 0)), barrel(1, math.MinInt, 0, to(0, 0)), barrel(1, math.MaxInt, 0, to(0, 0)),
		barrel(1, 0, math.MinInt, to(0, 0)), barrel(1, 0, math.MaxInt, to(0, 0)), barrel(1, 0, 0, to(math.MinInt, 0)), barrel(1, 0, 0, to(0, math.MaxInt)),
	} {
		fails(api.ErrArg, b)
		fails(api.ErrArg, good, b, good)
	}
}

// balance fails unless Suspects, with nothing misread, and Trials have an error.
func balance(t *testing.T, barrels int, trials []api.SoapTrial, wrong int, want, without api.Errno) {
	t.Helper()
	samples.List[int](t, "Suspects", nil, want)(soap.Suspects(barrels, trials, wrong))
	samples.Value(t, "Trials", 0, without)(soap.Trials(barrels, trials))
}

// TestBalanceErrors is for P6.9, P6.10 and R1: how many barrels there are, and how many trials were misread, comes before how many trials there are, and this before what they are.
func TestBalanceErrors(t *testing.T) {
	bad := make([]api.SoapTrial, 9)
	for _, trials := range [][]api.SoapTrial{nil, bad, bad[:8]} {
		for _, barrels := range []int{-1, 0, 1, 13, math.MinInt, math.MaxInt} {
			balance(t, barrels, trials, 0, api.ErrRange, api.ErrRange)
			balance(t, barrels, trials, -1, api.ErrRange, api.ErrRange)
		}
	}
	for _, wrong := range []int{-1, 9, math.MinInt, math.MaxInt} {
		balance(t, 2, bad, wrong, api.ErrRange, api.ErrLong)
		balance(t, 12, bad[:8], wrong, api.ErrRange, api.ErrArg)
	}
	balance(t, 9, slices.Repeat([]api.SoapTrial{thirds()}, 9), 0, api.ErrLong, api.ErrLong)
	balance(t, 9, bad, 8, api.ErrLong, api.ErrLong)
	balance(t, 9, bad[:8], 8, api.ErrArg, api.ErrArg)
}

// TestTrialErrors is for P6.9 and P6.10: a trial has as many barrels on both pans, one at least, none twice and each of them there; a pan is lighter, or none.
func TestTrialErrors(t *testing.T) {
	for _, x := range []api.SoapTrial{
		{}, trial(nil, []int{0}, 0), trial([]int{0}, nil, 0), trial([]int{}, []int{}, 1), trial([]int{0, 1}, []int{2}, 0), trial([]int{0}, []int{1, 2}, 0),
		trial([]int{0}, []int{0}, 0), trial([]int{0, 0}, []int{1, 2}, 0), trial([]int{0, 1}, []int{2, 2}, 0), trial([]int{0, 1}, []int{2, 0}, 0),
		trial([]int{4}, []int{0}, 0), trial([]int{0}, []int{4}, 0), trial([]int{-1}, []int{0}, 0), trial([]int{0}, []int{-1}, 0), trial([]int{4}, []int{5}, 0),
		trial([]int{math.MinInt}, []int{0}, 0), trial([]int{0}, []int{math.MaxInt}, 0),
		trial([]int{0}, []int{1}, -1), trial([]int{0}, []int{1}, 3), trial([]int{0}, []int{1}, math.MinInt), trial([]int{0}, []int{1}, math.MaxInt),
		trial(make([]int, 1000), make([]int, 1000), 0), trial([]int{0, 1, 2}, []int{3, 4, 5}, 0),
	} {
		balance(t, 4, []api.SoapTrial{x}, 8, api.ErrArg, api.ErrArg)
		balance(t, 4, []api.SoapTrial{trial([]int{0}, []int{1}, 0), x}, 0, api.ErrArg, api.ErrArg)
	}
}

// TestSuspects is for P6.9: a barrel can be the light one if no more trials than wrong contradict it.
func TestSuspects(t *testing.T) {
	left, right, even := trial([]int{0}, []int{1}, api.SoapLeft), trial([]int{0}, []int{1}, api.SoapRight), trial([]int{0}, []int{1}, api.SoapEven)
	for name, x := range map[string]struct {
		barrels int
		trials  []api.SoapTrial
		wrong   int
		want    []int
		e       api.Errno
	}{
		"no trials":         {2, nil, 0, []int{0, 1}, api.OK},
		"the most barrels":  {12, nil, 8, samples.UpTo(12), api.OK},
		"on the left":       {3, []api.SoapTrial{left}, 0, []int{0}, api.OK},
		"on the right":      {3, []api.SoapTrial{right}, 0, []int{1}, api.OK},
		"on none":           {3, []api.SoapTrial{even}, 0, []int{2}, api.OK},
		"none is left":      {2, []api.SoapTrial{even}, 0, nil, api.ErrState},
		"it was misread":    {2, []api.SoapTrial{even}, 1, []int{0, 1}, api.OK},
		"contradictory":     {3, []api.SoapTrial{left, right}, 0, nil, api.ErrState},
		"one of them":       {3, []api.SoapTrial{left, right}, 1, []int{0, 1}, api.OK},
		"both of them":      {3, []api.SoapTrial{left, right}, 2, []int{0, 1, 2}, api.OK},
		"twice the same":    {3, []api.SoapTrial{left, right, left}, 1, []int{0}, api.OK},
		"more than trials":  {3, []api.SoapTrial{left}, 8, []int{0, 1, 2}, api.OK},
		"eight trials":      {3, slices.Repeat([]api.SoapTrial{left}, 8), 7, []int{0}, api.OK},
		"all of them wrong": {3, slices.Repeat([]api.SoapTrial{left}, 8), 8, []int{0, 1, 2}, api.OK},
		"all barrels laid":  {12, []api.SoapTrial{trial([]int{0, 2, 4, 6, 8, 10}, []int{1, 3, 5, 7, 9, 11}, api.SoapRight)}, 0, []int{1, 3, 5, 7, 9, 11}, api.OK},
		"in any order":      {5, []api.SoapTrial{trial([]int{4, 0}, []int{3, 1}, api.SoapLeft)}, 0, []int{0, 4}, api.OK},
	} {
		samples.List(t, name, x.want, x.e)(soap.Suspects(x.barrels, x.trials, x.wrong))
	}
}

// TestTrials is for P6.10: of no trials before, for each number of barrels; what contradicts itself is an error.
func TestTrials(t *testing.T) {
	for barrels, want := range []int{2: 1, 1, 2, 2, 2, 2, 2, 2, 3, 3, 3} {
		if barrels >= 2 {
			samples.Value(t, "Trials", want, api.OK)(soap.Trials(barrels, nil))
		}
	}
	even := trial([]int{0}, []int{1}, api.SoapEven)
	samples.Value(t, "Trials of one suspect", 0, api.OK)(soap.Trials(3, []api.SoapTrial{even}))
	samples.Value(t, "Trials of two suspects", 1, api.OK)(soap.Trials(4, []api.SoapTrial{even}))
	samples.Value(t, "Trials of none", 0, api.ErrState)(soap.Trials(2, []api.SoapTrial{even}))
	samples.Value(t, "Trials after eight", 2, api.OK)(soap.Trials(11, slices.Repeat([]api.SoapTrial{even}, 8)))
}

// TestShare is for P6.11: the farthings that are missing are paid by those whose share was rounded by most, the first ones of several.
func TestShare(t *testing.T) {
	for name, x := range map[string]struct {
		pounds []int
		price  int
		want   []int
	}{
		"one":              {[]int{7}, 10, []int{10}},
		"exact":            {[]int{1, 2, 3}, 12, []int{2, 4, 6}},
		"nothing":          {[]int{1, 2, 3}, 0, []int{0, 0, 0}},
		"a farthing":       {[]int{1, 2, 3}, 1, []int{0, 0, 1}},
		"the first one":    {[]int{5, 5}, 1, []int{1, 0}},
		"the first two":    {[]int{1, 1, 1}, 5, []int{2, 2, 1}},
		"by most":          {[]int{2, 1, 1}, 3, []int{1, 1, 1}}, // 1.5, 0.75, 0.75
		"all but the last": {[]int{1, 1, 1, 1, 1, 1}, 11, []int{2, 2, 2, 2, 2, 1}},
		"an exact one":     {[]int{2, 1, 1}, 2, []int{1, 1, 0}},
		"the greatest":     {[]int{100, 100, 100, 100, 100, 100}, 100000, []int{16667, 16667, 16667, 16667, 16666, 16666}},
		"the most, for 1":  {[]int{1, 100}, 100000, []int{990, 99010}},
	} {
		samples.List(t, name, x.want, api.OK)(soap.Share(x.pounds, x.price))
	}
}

// TestShareErrors is for P6.11 and R1: how many weavers there are, their pounds, and the price, in this order.
func TestShareErrors(t *testing.T) {
	for _, x := range []struct {
		pounds []int
		price  int
		e      api.Errno
	}{
		{[]int{1, 1, 1, 1, 1, 1, 1}, 5, api.ErrLong}, {make([]int, 7), -1, api.ErrLong}, {make([]int, 1000), 0, api.ErrLong},
		{nil, 5, api.ErrNone}, {[]int{}, -1, api.ErrNone}, {nil, 100001, api.ErrNone},
		{[]int{0}, 5, api.ErrArg}, {[]int{1, 0, 1}, -1, api.ErrArg}, {[]int{101}, 100001, api.ErrArg}, {[]int{100, 101}, 5, api.ErrArg}, {[]int{-1}, 5, api.ErrArg},
		{[]int{math.MinInt, 5}, 5, api.ErrArg}, {[]int{5, math.MaxInt}, 5, api.ErrArg},
		{[]int{1}, -1, api.ErrRange}, {[]int{1}, 100001, api.ErrRange}, {[]int{1}, math.MinInt, api.ErrRange}, {[]int{100, 100}, math.MaxInt, api.ErrRange},
	} {
		samples.List[int](t, "Share", nil, x.e)(soap.Share(x.pounds, x.price))
	}
}

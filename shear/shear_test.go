package shear_test

import (
	"fmt"
	"math"
	"slices"
	"testing"

	"walkmill/api"
	"walkmill/samples"
	"walkmill/shear"
)

// outside are numbers that are not from low to high.
func outside(low, high int) []int {
	return set(low-1, high+1, math.MinInt, math.MaxInt)
}

// shares fails unless shearmen share a cloth as it is said.
func shares(t *testing.T, c api.ShearCloth, b api.ShearBlade, most int, from ...int) {
	t.Helper()
	sided(t, c, b, len(from), from, most, api.OK)
}

func sided(t *testing.T, c api.ShearCloth, b api.ShearBlade, men int, from []int, most int, error api.Errno) {
	t.Helper()
	list, n, e := shear.Side(c, b, men)
	if !slices.Equal(list, from) || n != most || e != error {
		t.Errorf("Side(%v, %v, %d) = %v, %d, %d, not %v, %d, %d", c, b, men, list, n, e, from, most, error)
	}
}

// ordered fails unless cloths are shorn in an order, and are late, as it is said.
func ordered(t *testing.T, list []api.ShearJob, late int, want ...int) {
	t.Helper()
	order, n, e := shear.Order(list)
	if !slices.Equal(order, want) || n != late || e != api.OK {
		t.Errorf("Order(%v) = %v, %d, %d, not %v, %d", list, order, n, e, want, late)
	}
}

// unordered fails unless cloths have an error.
func unordered(t *testing.T, want api.Errno, list ...api.ShearJob) {
	t.Helper()
	if order, late, e := shear.Order(list); len(order) > 0 || late != 0 || e != want {
		t.Errorf("Order(%v) = %v, %d, %d, not %d", list, order, late, e, want)
	}
}

// planned fails unless all functions with a plan have an error, whatever is found after it: here this is not valid.
func planned(t *testing.T, c api.ShearCloth, b api.ShearBlade, plan []int, want api.Errno) {
	t.Helper()
	name := func(function string) string { return fmt.Sprint(function, " of ", c, b, plan) }
	samples.List[api.Span](t, name("After"), nil, want)(shear.After(c, b, plan))
	samples.Two(t, name("Even"), false, false, want)(shear.Even(c, b, plan))
	samples.Two(t, name("Look"), 0, 0, want)(shear.Look(c, b, plan))
	samples.List[api.ShearMiss](t, name("Missed"), nil, want)(shear.Missed(c, b, found(plan)))
	samples.List[api.ShearMiss](t, name("Missed"), nil, want)(shear.Missed(c, b, found(plan, slices.Repeat(set(-1), len(c.Nap))...)))
}

// checked fails unless Check, and all functions but Order if it is an error, have an error, whatever their other arguments are: here these are not valid.
func checked(t *testing.T, c api.ShearCloth, b api.ShearBlade, want api.Errno) {
	t.Helper()
	name := func(function string) string { return fmt.Sprint(function, " of ", c, b) }
	if e := shear.Check(c, b); e != want {
		t.Errorf("%s = %d, not %d", name("Check"), e, want)
	}
	if want == api.OK {
		return
	}
	for _, plan := range [][]int{nil, set(0), set(-1), slices.Repeat(set(0), 6), slices.Repeat(set(-1), 6)} {
		planned(t, c, b, plan, want)
	}
	samples.List[int](t, name("Fewest"), nil, want)(shear.Fewest(c, b))
	samples.List[api.Span](t, name("Cuts"), nil, want)(shear.Cuts(c, b))
	for _, men := range set(0, 1, 5) {
		sided(t, c, b, men, nil, 0, want)
	}
}

// TestCheckStretches is for P11.1 and R1: how many stretches there are, and what they are, comes before all else; each limit can be reached, and is exceeded by one.
func TestCheckStretches(t *testing.T) {
	good, blunt := blade(to(0, 0), 0), blade(to(-1, -1), -1)
	for stretches, want := range map[int]api.Errno{0: api.ErrForm, 1: api.OK, 8: api.OK, 9: api.ErrForm, 1000: api.ErrForm} {
		checked(t, cloth(to(0, 0), make([]api.Span, stretches)...), good, want)
		checked(t, cloth(to(0, 0), slices.Repeat(spans(to(190, 200)), stretches)...), good, want)
		if want == api.ErrForm {
			checked(t, cloth(to(1, 0), make([]api.Span, stretches)...), blunt, want)
		}
	}
	checked(t, cloth(to(0, 200), to(0, 0), to(200, 200), to(0, 10), to(190, 200), to(95, 105), to(199, 200)), good, api.OK)
	for _, nap := range append(samples.Faulty(0, 200), to(0, 11), to(189, 200), to(0, 200), to(9, 8)) {
		checked(t, cloth(to(0, 200), nap), good, api.ErrForm)
		checked(t, cloth(to(0, 200), append(make([]api.Span, 7), nap)...), good, api.ErrForm)
		checked(t, cloth(to(1, 0), nap, to(0, 0)), blunt, api.ErrForm)
	}
}

// TestCheckNeed is for P11.1: what the cloth needs.
func TestCheckNeed(t *testing.T) {
	for _, need := range spans(to(0, 0), to(200, 200), to(0, 200), to(100, 111)) {
		checked(t, cloth(need, to(7, 7)), keen(), api.OK)
	}
	for _, need := range append(samples.Faulty(0, 200), to(32, 28)) {
		checked(t, cloth(need, to(7, 7)), keen(), api.ErrArg)
		checked(t, cloth(need, to(7, 7)), blade(to(-1, 0), 11), api.ErrArg)
		checked(t, cloth(need, to(7, 6)), keen(), api.ErrForm)
	}
}

// TestCheckBlade is for P11.1: what the blade takes, and by how much less after each cut; each limit can be reached, and is exceeded by one.
func TestCheckBlade(t *testing.T) {
	for _, bite := range spans(to(0, 0), to(60, 60), to(0, 5), to(55, 60), to(59, 60)) {
		checked(t, rough(), blade(bite, 0), api.OK)
		checked(t, rough(), blade(bite, 10), api.OK)
		for _, dull := range outside(0, 10) {
			checked(t, rough(), blade(bite, dull), api.ErrArg)
		}
	}
	for _, bite := range append(samples.Faulty(0, 60), to(0, 6), to(54, 60), to(0, 60), to(12, 10)) {
		checked(t, rough(), blade(bite, 2), api.ErrArg)
		checked(t, cloth(to(28, 32)), blade(bite, 2), api.ErrForm)
	}
}

// TestPlanErrors is for P11.1 and R1: how many cuts a plan has comes before what they are, and both before all else; each limit can be reached, and is exceeded by one.
func TestPlanErrors(t *testing.T) {
	for _, plan := range [][]int{nil, set(0), set(200), slices.Repeat(set(200), 5), set(0, 200, 0, 200, 1)} {
		after(t, rough(), keen(), plan)
	}
	for _, cuts := range set(6, 7, 1000) {
		planned(t, rough(), keen(), slices.Repeat(set(30), cuts), api.ErrLong)
		planned(t, rough(), keen(), slices.Repeat(set(-1), cuts), api.ErrLong)
	}
	for _, height := range outside(0, 200) {
		planned(t, rough(), keen(), set(height), api.ErrRange)
		planned(t, rough(), keen(), set(30, 30, 30, 30, height), api.ErrRange)
		planned(t, cloth(to(0, 200), to(30, 30)), keen(), set(height, 30), api.ErrRange) // it is not open
	}
}

// TestAfter is for P11.2: nap that is not higher stays, what is higher comes down to where the blade is set, but by no more than it takes, which is less in each cut after the first, whatever was cut.
func TestAfter(t *testing.T) {
	for name, x := range map[string]struct {
		nap   api.Span
		blade api.ShearBlade
		plan  []int
		want  api.Span
	}{
		"no cut":             {to(5, 9), keen(), nil, to(5, 9)},
		"not higher":         {to(29, 30), blade(to(10, 10), 0), set(30), to(29, 30)},
		"just higher":        {to(31, 31), blade(to(10, 10), 0), set(30), to(30, 30)},
		"some are higher":    {to(25, 35), blade(to(10, 10), 0), set(30), to(25, 30)},
		"all it takes":       {to(50, 50), blade(to(10, 10), 0), set(30), to(40, 40)},
		"just down":          {to(40, 40), blade(to(10, 10), 0), set(30), to(30, 30)},
		"the nap is unknown": {to(50, 52), blade(to(10, 10), 0), set(30), to(40, 42)},
		"the bite is":        {to(50, 50), blade(to(10, 15), 0), set(30), to(35, 40)},
		"both are":           {to(50, 52), blade(to(10, 12), 0), set(0), to(38, 42)},
		"what is even":       {to(30, 40), blade(to(20, 25), 0), set(25), to(25, 25)},
		"dull":               {to(100, 100), blade(to(10, 10), 4), slices.Repeat(set(0), 5), to(82, 82)},
		"dull without work":  {to(100, 100), blade(to(10, 10), 4), set(200, 0), to(94, 94)},
		"not below nothing":  {to(20, 20), blade(to(3, 5), 10), set(0, 0), to(15, 17)},
		"some are dull":      {to(50, 50), blade(to(8, 12), 10), set(0, 0), to(36, 42)},
		"takes nothing":      {to(20, 20), blade(to(0, 0), 0), set(0, 0, 0, 0, 0), to(20, 20)},
		"all of it":          {to(20, 30), blade(to(60, 60), 10), set(0), to(0, 0)},
		"the highest":        {to(200, 200), blade(to(60, 60), 10), slices.Repeat(set(0), 5), to(0, 0)},
		"nearly all":         {to(200, 200), blade(to(55, 60), 10), slices.Repeat(set(0), 4), to(20, 40)},
		"set higher later":   {to(50, 50), blade(to(10, 10), 0), set(45, 48), to(45, 45)},
		"set lower later":    {to(50, 50), blade(to(10, 10), 0), set(48, 45), to(45, 45)},
	} {
		samples.List(t, name, spans(x.want), api.OK)(shear.After(cloth(to(0, 200), x.nap), x.blade, x.plan))
		samples.List(t, name+", of eight", slices.Repeat(spans(x.want), 8), api.OK)(shear.After(cloth(to(7, 7), slices.Repeat(spans(x.nap), 8)...), x.blade, x.plan))
	}
}

// TestEven is for P11.3: all stretches must lie in Need, both its ends among it; what each can by itself all need not be able to in one truth.
func TestEven(t *testing.T) {
	for name, x := range map[string]struct {
		cloth            api.ShearCloth
		plan             []int
		surely, possibly bool
	}{
		"all of Need":      {cloth(to(30, 40), to(30, 40), to(35, 35)), nil, true, true},
		"1 below":          {cloth(to(30, 40), to(29, 39), to(35, 35)), nil, false, true},
		"1 above":          {cloth(to(30, 40), to(35, 35), to(31, 41)), nil, false, true},
		"all below":        {cloth(to(30, 40), to(20, 29)), nil, false, false},
		"all above":        {cloth(to(30, 40), to(41, 41)), nil, false, false},
		"the last below":   {cloth(to(30, 40), to(35, 35), to(35, 35), to(29, 29)), nil, false, false},
		"the first one":    {cloth(to(30, 30), to(40, 40)), set(0), false, true},
		"the second one":   {cloth(to(30, 30), to(41, 41)), set(0), false, true},
		"not both at once": {cloth(to(30, 30), to(40, 40), to(41, 41)), set(0), false, false},
		"both in time":     {cloth(to(30, 30), to(40, 40), to(41, 41)), set(30, 30), true, true},
		"not one number":   {cloth(to(30, 30), to(40, 40), to(40, 41)), set(0), false, true},
	} {
		samples.Two(t, name, x.surely, x.possibly, api.OK)(shear.Even(x.cloth, blade(to(10, 11), 0), x.plan))
	}
}

// TestFewest is for P11.4: no cut if none is needed, set as low as no nap comes below Need; and none if there is no plan.
func TestFewest(t *testing.T) {
	for name, x := range map[string]struct {
		cloth api.ShearCloth
		blade api.ShearBlade
		want  []int
	}{
		"none":                 {cloth(to(28, 32), to(28, 32)), keen(), set()},
		"none by a dull blade": {cloth(to(28, 32), to(30, 30)), blade(to(0, 0), 0), set()},
		"set to nothing":       {cloth(to(80, 90), to(100, 100)), blade(to(10, 10), 0), set(0)},
		"set to Need":          {cloth(to(50, 50), to(60, 60)), blade(to(10, 12), 0), set(50)},
		"nothing at first":     {cloth(to(30, 32), to(50, 50)), blade(to(10, 12), 0), set(0, 30)},
		"as one is low":        {cloth(to(30, 32), to(50, 50), to(30, 30)), blade(to(10, 12), 0), set(30, 30)},
		"as one can be low":    {cloth(to(30, 32), to(50, 50), to(41, 46)), blade(to(10, 12), 0), set(30, 30)},
		"as none is low":       {cloth(to(30, 32), to(50, 50), to(42, 46)), blade(to(10, 12), 0), set(0, 30)},
		"nothing in all":       {cloth(to(40, 50), to(100, 100)), blade(to(10, 10), 0), set(0, 0, 0, 0, 0)},
		"nothing at last":      {cloth(to(10, 12), to(30, 30), to(15, 15)), blade(to(10, 10), 2), set(10, 10)},
		"dull at last":         {cloth(to(20, 28), to(39, 39), to(21, 21)), blade(to(10, 10), 9), set(20, 20)},
		"all of it":            {cloth(to(0, 0), to(10, 10)), blade(to(10, 10), 0), set(0)},
		"what is high":         {cloth(to(200, 200), to(200, 200)), blade(to(60, 60), 0), set()},
	} {
		samples.List(t, name, x.want, api.OK)(shear.Fewest(x.cloth, x.blade))
	}
	for name, x := range map[string]struct {
		cloth api.ShearCloth
		blade api.ShearBlade
	}{
		"too low":              {cloth(to(28, 32), to(27, 32)), keen()},
		"one of two too low":   {cloth(to(28, 32), to(50, 50), to(27, 27)), keen()},
		"six cuts":             {cloth(to(40, 50), to(101, 101)), blade(to(10, 10), 0)},
		"six cuts in a truth":  {cloth(to(40, 50), to(100, 101)), blade(to(10, 10), 0)},
		"six by some blade":    {cloth(to(40, 50), to(100, 100)), blade(to(9, 10), 0)},
		"it becomes dull":      {cloth(to(0, 89), to(100, 100)), blade(to(10, 10), 10)},
		"it cannot cut at all": {cloth(to(0, 99), to(100, 100)), blade(to(0, 0), 0)},
	} {
		samples.List[int](t, name, nil, api.ErrState)(shear.Fewest(x.cloth, x.blade))
	}
}

// TestCuts is for P11.5: none for what is not above Need, also if it is below; as the blade becomes dull, more than five are told as six.
func TestCuts(t *testing.T) {
	for name, x := range map[string]struct {
		need, nap api.Span
		blade     api.ShearBlade
		want      api.Span
	}{
		"in Need":           {to(28, 32), to(32, 32), keen(), to(0, 0)},
		"below":             {to(28, 32), to(10, 20), keen(), to(0, 0)},
		"1 above":           {to(28, 32), to(33, 33), blade(to(60, 60), 0), to(1, 1)},
		"in some truths":    {to(28, 32), to(32, 33), keen(), to(0, 1)},
		"five":              {to(28, 32), to(82, 82), blade(to(10, 10), 0), to(5, 5)},
		"six":               {to(28, 32), to(83, 83), blade(to(10, 10), 0), to(6, 6)},
		"five or six":       {to(28, 32), to(82, 83), blade(to(10, 10), 0), to(5, 6)},
		"many more":         {to(0, 0), to(200, 200), blade(to(1, 1), 0), to(6, 6)},
		"never":             {to(28, 32), to(33, 33), blade(to(0, 0), 0), to(6, 6)},
		"never or none":     {to(28, 32), to(32, 33), blade(to(0, 0), 0), to(0, 6)},
		"dull":              {to(28, 32), to(47, 47), blade(to(10, 10), 5), to(2, 2)},
		"too dull":          {to(28, 32), to(48, 48), blade(to(10, 10), 5), to(6, 6)},
		"by the bite":       {to(28, 28), to(50, 50), blade(to(10, 12), 0), to(2, 3)},
		"to just one":       {to(28, 28), to(38, 38), blade(to(10, 12), 0), to(1, 1)},
		"it may be enough":  {to(0, 10), to(20, 20), blade(to(9, 10), 10), to(1, 6)},
		"never below Need":  {to(30, 30), to(60, 60), blade(to(20, 20), 0), to(2, 2)},
		"by nap and by all": {to(28, 32), to(40, 50), blade(to(8, 10), 0), to(1, 3)},
	} {
		samples.List(t, name, spans(x.want), api.OK)(shear.Cuts(cloth(x.need, x.nap), x.blade))
		samples.List(t, name+", of two", spans(x.want, to(0, 0)), api.OK)(shear.Cuts(cloth(x.need, x.nap, x.need), x.blade))
	}
}

// priced is a cloth of stretches that need so many cuts of the blade beside it.
func priced(costs ...int) (api.ShearCloth, api.ShearBlade) {
	c := cloth(to(10, 19))
	for _, cost := range costs {
		c.Nap = append(c.Nap, to(10*cost+10, 10*cost+19))
	}
	return c, blade(to(10, 10), 0)
}

// TestSide is for P11.6: the greatest sum is as small as it can be, by the smallest list: so the first ones rather have none.
func TestSide(t *testing.T) {
	for _, x := range []struct {
		costs, from []int
		most        int
	}{
		{set(5), set(0), 5}, {set(5), set(0, 0, 0, 0), 5}, {set(0), set(0, 0), 0}, {set(1, 2, 3), set(0), 6},
		{set(1, 1), set(0, 1), 1}, {set(0, 0), set(0, 0), 0}, {set(1, 2), set(0, 0, 0, 1), 2}, {set(5, 0, 0), set(0, 0), 5}, {set(0, 0, 5), set(0, 0), 5}, {set(5, 1), set(0, 1), 5},
		{set(2, 2, 2, 2), set(0, 1, 2, 3), 2}, {set(2, 2, 2, 2), set(0, 0, 2), 4}, {set(1, 2, 3, 4, 5), set(0, 3), 9}, {set(5, 4, 3, 2, 1), set(0, 2), 9},
		{set(1, 1, 5, 1, 1), set(0, 0, 2, 3), 5}, {set(5, 5, 5, 5, 5, 5, 5, 5), set(0, 2, 4, 6), 10}, {set(5, 5, 5, 5, 5, 5, 5, 5), set(0), 40}, {set(0, 0, 0, 0, 0, 0, 0, 0), set(0, 0, 0, 0), 0},
	} {
		c, b := priced(x.costs...)
		shares(t, c, b, x.most, x.from...)
	}
}

// TestSideErrors is for P11.6 and R1: how many men there are comes before what they can do.
func TestSideErrors(t *testing.T) {
	fit, blade := priced(5, 0)
	high, _ := priced(0, 6)
	for _, men := range outside(1, 4) {
		sided(t, fit, blade, men, nil, 0, api.ErrNone)
		sided(t, high, blade, men, nil, 0, api.ErrNone)
	}
	for men := 1; men <= 4; men++ {
		sided(t, high, blade, men, nil, 0, api.ErrState)
	}
	sided(t, cloth(to(10, 19), to(60, 70)), blade, 2, nil, 0, api.ErrState) // six cuts in one truth
	shares(t, cloth(to(10, 19), to(60, 69)), blade, 5, 0, 0)
	shares(t, cloth(to(10, 19), to(0, 5)), blade, 0, 0, 0)
}

// TestLook is for P11.7: the stretch that leaves the fewest heights with which it is open still, the first one of several; what is found of it tells of the blade too.
func TestLook(t *testing.T) {
	for name, x := range map[string]struct {
		cloth         api.ShearCloth
		blade         api.ShearBlade
		plan          []int
		stretch, left int
		e             api.Errno
	}{
		"one stretch":        {cloth(to(30, 31), to(30, 32)), keen(), nil, 0, 0, api.OK},
		"alike":              {cloth(to(30, 31), to(31, 32), to(31, 32)), keen(), nil, 0, 1, api.OK},
		"the narrower one":   {cloth(to(30, 31), to(30, 33), to(31, 32)), keen(), nil, 1, 1, api.OK},
		"the first narrower": {cloth(to(30, 31), to(31, 32), to(30, 33)), keen(), nil, 0, 1, api.OK},
		"the only open one":  {cloth(to(30, 31), to(30, 31), to(31, 32)), keen(), nil, 1, 0, api.OK},
		"the blade by one":   {cloth(to(30, 31), to(41, 41), to(42, 42)), blade(to(10, 12), 0), set(0), 0, 0, api.OK},
		"the blade by other": {cloth(to(30, 30), to(30, 30), to(41, 41)), blade(to(10, 12), 0), set(30), 1, 0, api.OK},
		"the blade a little": {cloth(to(30, 31), to(41, 42), to(41, 42)), blade(to(10, 11), 0), set(0), 0, 1, api.OK},
		"the blade more":     {cloth(to(30, 31), to(41, 42), to(42, 43)), blade(to(10, 11), 0), set(0), 1, 0, api.OK},
		"surely":             {cloth(to(30, 31), to(30, 31)), keen(), nil, 0, 0, api.ErrTwice},
		"surely in the end":  {rough(), keen(), set(28, 28, 28), 0, 0, api.ErrTwice},
		"never":              {cloth(to(30, 31), to(30, 31), to(29, 29)), keen(), nil, 0, 0, api.ErrTwice},
		"never at once":      {cloth(to(30, 30), to(40, 40), to(41, 41)), blade(to(10, 11), 0), set(0), 0, 0, api.ErrTwice},
	} {
		samples.Two(t, name, x.stretch, x.left, x.e)(shear.Look(x.cloth, x.blade, x.plan))
	}
}

// TestMissed is for P11.8: also in a cut that was left out the blade became dull.
func TestMissed(t *testing.T) {
	high := cloth(to(0, 0), to(100, 100))
	two := cloth(to(0, 0), to(100, 100), to(100, 100))
	even, dull, unsure := blade(to(10, 10), 0), blade(to(10, 10), 2), blade(to(10, 12), 0)
	for name, x := range map[string]struct {
		cloth api.ShearCloth
		blade api.ShearBlade
		plan  []int
		nap   []int
		want  []api.ShearMiss
		e     api.Errno
	}{
		"the first cut":        {high, dull, set(0, 0), set(92), misses(miss(0, 0)), api.OK},
		"the second one":       {high, dull, set(0, 0), set(90), misses(miss(1, 0)), api.OK},
		"as it was planned":    {high, dull, set(0, 0), set(82), nil, api.ErrTwice},
		"both":                 {high, dull, set(0, 0), set(100), nil, api.ErrState},
		"more than was cut":    {high, dull, set(0, 0), set(81), nil, api.ErrState},
		"one or the other":     {high, even, set(0, 0), set(90), misses(miss(0, 0), miss(1, 0)), api.OK},
		"any of five":          {high, even, slices.Repeat(set(0), 5), set(60), misses(miss(0, 0), miss(1, 0), miss(2, 0), miss(3, 0), miss(4, 0)), api.OK},
		"one of three":         {high, even, set(95, 80, 80), set(90), nil, api.ErrState},
		"without the third":    {high, even, set(95, 80, 80), set(85), misses(miss(1, 0), miss(2, 0)), api.OK},
		"of the second":        {two, even, set(0, 0), set(80, 90), misses(miss(0, 1), miss(1, 1)), api.OK},
		"of both":              {two, even, set(0, 0), set(90, 90), nil, api.ErrState},
		"by one blade alone":   {two, unsure, set(0), set(88, 100), misses(miss(0, 1)), api.OK},
		"by no blade":          {two, unsure, set(0), set(88, 90), nil, api.ErrState},
		"by one of the cuts":   {two, unsure, set(0, 90), set(90, 91), nil, api.ErrState},
		"by the other one":     {two, unsure, set(0, 90), set(90, 90), nil, api.ErrTwice},
		"cut not at all":       {high, even, set(0, 100), set(90), nil, api.ErrTwice},
		"without a cut":        {high, even, nil, set(100), nil, api.ErrTwice},
		"without, but other":   {high, even, nil, set(99), nil, api.ErrState},
		"as high as it can be": {cloth(to(0, 0), to(190, 200)), even, set(0), set(200), misses(miss(0, 0)), api.OK},
		"as low as it can be":  {cloth(to(0, 0), to(10, 10)), even, set(0), set(0), nil, api.ErrTwice},
	} {
		samples.List(t, name, x.want, x.e)(shear.Missed(x.cloth, x.blade, found(x.plan, x.nap...)))
	}
}

// TestMissedErrors is for P11.8 and R1: what was found comes before whether it can be so.
func TestMissedErrors(t *testing.T) {
	plan := set(30, 30)
	for _, nap := range [][]int{nil, set(30), set(30, 30), set(30, 30, 30, 30), set(30, 30, -1, 30)} {
		samples.List[api.ShearMiss](t, fmt.Sprint("Missed of ", nap), nil, api.ErrNone)(shear.Missed(rough(), keen(), found(plan, nap...)))
	}
	for _, height := range outside(0, 200) {
		for _, nap := range [][]int{set(height, 30, 30), set(30, 30, height), set(height, height, height)} {
			samples.List[api.ShearMiss](t, fmt.Sprint("Missed of ", nap), nil, api.ErrNone)(shear.Missed(rough(), keen(), found(plan, nap...)))
		}
	}
	samples.List[api.ShearMiss](t, "Missed of the limits", nil, api.ErrState)(shear.Missed(rough(), keen(), found(plan, 0, 200, 0)))
}

// TestOrder is for P11.9: the latest one is late by as little as can be, by the smallest list; none is late by less than 0 hours.
func TestOrder(t *testing.T) {
	ordered(t, nil, 0)
	ordered(t, jobs(job(4, 4)), 0, 0)
	ordered(t, jobs(job(4, 3)), 1, 0)
	ordered(t, jobs(job(500, 0)), 500, 0)
	ordered(t, jobs(job(1, 500), job(1, 500), job(1, 500)), 0, 0, 1, 2)
	ordered(t, jobs(job(4, 9), job(2, 6)), 0, 0, 1)
	ordered(t, jobs(job(4, 9), job(2, 5)), 0, 1, 0)
	ordered(t, jobs(job(5, 9), job(2, 5), job(2, 4)), 0, 1, 2, 0)
	ordered(t, jobs(job(5, 9), job(2, 4), job(2, 2)), 0, 2, 1, 0)
	ordered(t, jobs(job(9, 3), job(2, 9)), 6, 0, 1)
	ordered(t, jobs(job(2, 9), job(9, 3)), 6, 1, 0)
	ordered(t, jobs(job(1, 20), job(9, 2), job(1, 9)), 7, 1, 0, 2)
	ordered(t, slices.Repeat(jobs(job(500, 0)), 7), 3500, 0, 1, 2, 3, 4, 5, 6)
	ordered(t, jobs(job(1, 7), job(1, 6), job(1, 5), job(1, 4), job(1, 3), job(1, 2), job(1, 1)), 0, 6, 5, 4, 3, 2, 1, 0)
}

// TestOrderErrors is for P11.9 and R1: how many cloths there are comes before what they are; each limit can be reached, and is exceeded by one.
func TestOrderErrors(t *testing.T) {
	good, bad := job(500, 500), job(0, -1)
	for _, many := range set(8, 9, 1000) {
		unordered(t, api.ErrLong, slices.Repeat(jobs(good), many)...)
		unordered(t, api.ErrLong, slices.Repeat(jobs(bad), many)...)
	}
	for _, hours := range outside(1, 500) {
		unordered(t, api.ErrArg, job(hours, 0))
		unordered(t, api.ErrArg, good, good, good, good, good, good, job(hours, 500))
	}
	for _, due := range outside(0, 500) {
		unordered(t, api.ErrArg, job(1, due))
		unordered(t, api.ErrArg, job(1, due), good, good, good, good, good, good)
	}
}

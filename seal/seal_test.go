package seal_test

import (
	"math"
	"slices"
	"strings"
	"testing"

	"walkmill/api"
	"walkmill/samples"
	"walkmill/seal"
)

// answer is a result of any function, for tests that look at errors: whether each other result is its zero value, and the error.
type answer struct {
	name  string
	empty bool
	e     api.Errno
}

// measured asks the functions with a reading; that with a kind has one that is not there.
func measured(s api.SealStatute, read []int) []answer {
	surely, possibly, e := seal.Kinds(s, read)
	all := []answer{{"Kinds", len(surely)+len(possibly) == 0, e}}
	span, e := seal.Fine(s, read, -1)
	all = append(all, answer{"Fine", span == api.Span{}, e})
	kind, fine, e := seal.Best(s, read)
	all = append(all, answer{"Best", kind == 0 && fine == 0, e})
	size, left, e := seal.Look(s, read)
	return append(all, answer{"Look", size == 0 && left == 0, e})
}

// booked asks the functions with rows.
func booked(s api.SealStatute, rows []api.SealRow, size int) []answer {
	spans, e := seal.Cord(s, rows, size)
	all := []answer{{"Cord", len(spans) == 0, e}}
	list, shift, e := seal.Wrong(s, rows, size)
	return append(all, answer{"Wrong", len(list) == 0 && shift == 0, e})
}

// stated asks the functions with a statute, but Check, with other arguments that are not valid.
func stated(s api.SealStatute) []answer {
	all := slices.Concat(measured(s, nil), booked(s, make([]api.SealRow, 11), 3))
	pairs, e := seal.Alike(s)
	all = append(all, answer{"Alike", len(pairs) == 0, e})
	kinds, e := seal.Torn(s, "")
	return append(all, answer{"Torn", len(kinds) == 0, e})
}

// expect fails unless all answers are empty, with an error.
func expect(t *testing.T, about any, want api.Errno, list ...answer) {
	t.Helper()
	for _, a := range list {
		if a.e != want || !a.empty {
			t.Errorf("%v: %s = %d, empty %v, not %d", about, a.name, a.e, a.empty, want)
		}
	}
}

// check fails unless all functions with a statute have the error of Check of some statutes first.
func check(t *testing.T, want api.Errno, list ...api.SealStatute) {
	t.Helper()
	for _, s := range list {
		if e := seal.Check(s); e != want {
			t.Errorf("%v: Check = %d, not %d", s, e, want)
		}
		if want != api.OK {
			expect(t, s, want, stated(s)...)
		}
	}
}

// many is a statute of so many kinds.
func many(kinds int) api.SealStatute { return lengths(0, make([]api.Span, kinds)...) }

// bad is a kind that is not valid.
func bad() api.SealKind { return kind(to(0, 0), to(-1, 0), to(0, 0), "a") }

// TestCheckForm is for P7.1 and R1: how many kinds and numbers in Off there are comes before what they are.
func TestCheckForm(t *testing.T) {
	check(t, api.OK, statute(), many(1), many(6))
	check(t, api.ErrForm, api.SealStatute{}, many(0), many(7), many(1000), off(statute()), off(statute(), 1, 2), off(statute(), 1, 2, 3, 4), off(statute(), make([]int, 1000)...))
	check(t, api.ErrForm,
		set(many(0), func(s *api.SealStatute) { s.Grace, s.Off = -1, []int{-1, 0, 0} }),
		set(many(7), func(s *api.SealStatute) { s.Kinds[0] = bad() }),
		set(off(statute(), -1, -1), func(s *api.SealStatute) { s.Fine, s.Kinds[2] = 101, bad() }))
}

// TestCheckNumbers is for P7.1: each limit of Grace, Fine and Off can be reached, and is exceeded by one.
func TestCheckNumbers(t *testing.T) {
	grace := func(x int) api.SealStatute { return set(statute(), func(s *api.SealStatute) { s.Grace = x }) }
	fine := func(x int) api.SealStatute { return set(statute(), func(s *api.SealStatute) { s.Fine = x }) }
	check(t, api.OK, grace(0), grace(50), fine(0), fine(100), off(statute(), 0, 0, 0), off(statute(), 20, 20, 20))
	check(t, api.ErrArg, grace(-1), grace(51), grace(math.MinInt), grace(math.MaxInt), fine(-1), fine(101), fine(math.MinInt), fine(math.MaxInt))
	for size := range 3 {
		for _, x := range []int{-1, 21, math.MinInt, math.MaxInt} {
			check(t, api.ErrArg, set(statute(), func(s *api.SealStatute) { s.Off[size] = x }))
		}
	}
}

// TestCheckSizes is for P7.1: a kind has three sizes, each of which is a valid span within its limits.
func TestCheckSizes(t *testing.T) {
	sized := func(sizes ...api.Span) api.SealStatute {
		return set(statute(), func(s *api.SealStatute) { s.Kinds[1].Sizes = sizes })
	}
	check(t, api.OK, sized(to(0, 0), to(2000, 2000), to(0, 2000)), sized(to(0, 2000), to(0, 0), to(2000, 2000)))
	check(t, api.ErrArg, sized(), sized(to(1, 1)), sized(to(1, 1), to(1, 1)), sized(to(1, 1), to(1, 1), to(1, 1), to(1, 1)), sized(make([]api.Span, 1000)...))
	for size := range 3 {
		for _, span := range []api.Span{to(-1, 0), to(-1, -1), to(2000, 2001), to(2001, 2001), to(5, 4), to(math.MinInt, 0), to(0, math.MaxInt), to(math.MaxInt, math.MinInt)} {
			check(t, api.ErrArg, set(statute(), func(s *api.SealStatute) { s.Kinds[2].Sizes[size] = span }))
		}
	}
}

// TestCheckMarks is for P7.1: a mark is from one to eight letters from a to z.
func TestCheckMarks(t *testing.T) {
	marked := func(mark string) api.SealStatute {
		return set(statute(), func(s *api.SealStatute) { s.Kinds[0].Mark = mark })
	}
	check(t, api.OK, marked("a"), marked("z"), marked("azazazaz"), marked("kersey"))
	check(t, api.ErrArg, marked(""), marked("azazazaza"), marked(strings.Repeat("a", 1000)), marked("a?"), marked("?"), marked("A"), marked("a`"), marked("{a"), marked("a b"), marked("a1"), marked("a\n"), marked("\x00"), marked("a\xff"), marked("é"), marked("aé"))
}

// TestReadingErrors is for P7.1 and R1: a reading that is not valid comes after the statute, and before all else.
func TestReadingErrors(t *testing.T) {
	for _, read := range [][]int{
		nil, {}, {1}, {1, 1}, {1, 1, 1, 1}, make([]int, 1000), {-1, 1, 1}, {1, -1, 1}, {1, 1, -1}, {2001, 1, 1}, {1, 2001, 1}, {1, 1, 2001},
		{math.MinInt, 1, 1}, {1, math.MaxInt, 1}, {1, 1, math.MaxInt},
	} {
		expect(t, read, api.ErrRange, measured(statute(), read)...)
		expect(t, read, api.ErrForm, measured(many(0), read)...)
	}
	for _, read := range [][]int{{0, 0, 0}, {2000, 2000, 2000}} {
		kinds(t, statute(), read, nil, nil)
	}
}

// TestKinds is for P7.2: both ends of a kind's span are of it; what was read is wrong in both directions, but not below 0.
func TestKinds(t *testing.T) {
	no, all := []int(nil), []int{0}
	s := off(lengths(9, to(10, 20)), 3, 0, 0)
	for _, x := range []struct {
		long             int
		surely, possibly []int
	}{
		{6, no, no}, {7, no, all}, {12, no, all}, {13, all, all}, {17, all, all}, {18, no, all}, {23, no, all}, {24, no, no},
	} {
		kinds(t, s, []int{x.long, 0, 0}, x.surely, x.possibly)
	}
	for size := range 3 {
		s := off(statute(), 0, 0, 0)
		read := []int{400, 70, 160}
		kinds(t, s, read, []int{1}, []int{1})
		read[size] += []int{-1, 1, 1}[size]
		kinds(t, s, read, nil, nil)
		s.Off[size] = 1
		kinds(t, s, read, nil, []int{1})
	}
	kinds(t, off(lengths(0, to(0, 5), to(0, 4), to(1, 5)), 3, 0, 0), []int{2, 0, 0}, []int{0}, []int{0, 1, 2})
	kinds(t, off(lengths(0, to(1980, 2000)), 20, 0, 0), []int{2000, 0, 0}, no, all) // it can be above what can be read
	kinds(t, off(lengths(50, to(0, 2000)), 20, 0, 0), []int{1980, 0, 0}, all, all)
	kinds(t, lengths(0, slices.Repeat([]api.Span{to(5, 5)}, 6)...), []int{5, 0, 0}, []int{0, 1, 2, 3, 4, 5}, []int{0, 1, 2, 3, 4, 5})
}

// TestFine is for P7.3: the sizes are beyond below and above, by no more than Grace, and not below 0; the fines of all of them are added.
func TestFine(t *testing.T) {
	s := off(lengths(10, to(100, 200)), 3, 0, 0)
	for long, want := range map[int]api.Span{
		150: to(0, 0), 103: to(0, 0), 102: to(0, 1), 100: to(0, 3), 97: to(0, 6), 96: to(1, 7), 93: to(4, 10), 92: to(5, 10), 87: to(10, 10),
		197: to(0, 0), 198: to(0, 1), 204: to(1, 7), 207: to(4, 10), 210: to(7, 10), 213: to(10, 10),
	} {
		fine(t, s, []int{long, 0, 0}, 0, want, api.OK)
	}
	fine(t, s, []int{86, 0, 0}, 0, api.Span{}, api.ErrState)
	fine(t, s, []int{214, 0, 0}, 0, api.Span{}, api.ErrState)
	fine(t, s, []int{150, 10, 10}, 0, to(20, 20), api.OK)
	fine(t, s, []int{96, 10, 10}, 0, to(21, 27), api.OK)
	fine(t, s, []int{150, 11, 0}, 0, api.Span{}, api.ErrState)
	fine(t, s, []int{150, 0, 11}, 0, api.Span{}, api.ErrState)
	fine(t, off(lengths(10, to(5, 9)), 3, 0, 0), []int{1, 0, 0}, 0, to(1, 5), api.OK)
	fine(t, off(lengths(0, to(5, 9)), 3, 0, 0), []int{11, 0, 0}, 0, to(0, 0), api.OK)
	fine(t, lengths(0, to(5, 9)), []int{10, 0, 0}, 0, api.Span{}, api.ErrState)
	free := set(statute(), func(s *api.SealStatute) { s.Fine = 0 })
	fine(t, free, []int{890, 59, 341}, 0, to(0, 0), api.OK)
	dear := set(lengths(50, to(0, 0)), func(s *api.SealStatute) { s.Fine = 100 })
	fine(t, dear, []int{50, 50, 50}, 0, to(15000, 15000), api.OK)
	fine(t, off(dear, 20, 20, 20), []int{70, 20, 10}, 0, to(5000, 12000), api.OK)
}

// TestFineErrors is for P7.3 and R1: kind is the number of a kind, which comes before that it cannot be sealed.
func TestFineErrors(t *testing.T) {
	for _, number := range []int{-1, 3, 6, math.MinInt, math.MaxInt} {
		fine(t, statute(), []int{430, 62, 140}, number, api.Span{}, api.ErrNone)
		fine(t, statute(), []int{0, 0, 0}, number, api.Span{}, api.ErrNone)
		fine(t, statute(), []int{-1, 0, 0}, number, api.Span{}, api.ErrRange)
	}
	for number := range 3 {
		fine(t, statute(), []int{0, 0, 0}, number, api.Span{}, api.ErrState)
	}
}

// TestBest is for P7.4: a kind is one as of which the cloth can be sealed in all truths; the least of the greatest fines decides, then the number.
func TestBest(t *testing.T) {
	for name, x := range map[string]struct {
		s          api.SealStatute
		long       int
		kind, fine int
		e          api.Errno
	}{
		"without a fine":         {lengths(0, to(10, 20)), 15, 0, 0, api.OK},
		"by just Grace":          {lengths(5, to(10, 20)), 25, 0, 5, api.OK},
		"beyond Grace":           {lengths(5, to(10, 20)), 26, 0, 0, api.ErrState},
		"the less one":           {lengths(50, to(10, 20), to(30, 40)), 26, 1, 4, api.OK},
		"the first one":          {lengths(50, to(10, 20), to(30, 40)), 25, 0, 5, api.OK},
		"of equal ones":          {lengths(50, to(0, 0), to(10, 20), to(10, 20)), 21, 1, 1, api.OK},
		"the greatest one":       {off(lengths(50, to(10, 20), to(15, 25)), 3, 0, 0), 18, 1, 0, api.OK},
		"by Off":                 {off(lengths(50, to(10, 20)), 3, 0, 0), 21, 0, 4, api.OK},
		"by Off and by Grace":    {off(lengths(4, to(10, 20)), 3, 0, 0), 21, 0, 4, api.OK},
		"in some truths only":    {off(lengths(3, to(10, 20)), 3, 0, 0), 21, 0, 0, api.ErrState},
		"none in all":            {off(lengths(10, to(0, 50), to(60, 61)), 9, 0, 0), 55, 0, 0, api.ErrState},
		"not in some truths":     {off(lengths(10, to(0, 19), to(20, 25)), 8, 0, 0), 22, 1, 6, api.OK},
		"not below 0":            {off(lengths(5, to(5, 9)), 3, 0, 0), 1, 0, 5, api.OK},
		"the first one for free": {off(lengths(50, to(0, 90), to(0, 90)), 3, 0, 0), 50, 0, 0, api.OK},
	} {
		samples.Two(t, name, x.kind, x.fine, x.e)(seal.Best(x.s, []int{x.long, 0, 0}))
	}
	// Each size must be within Grace, however little the fine is together.
	s := lengths(10, to(0, 0), to(20, 30))
	samples.Two(t, "all sizes", 0, 30, api.OK)(seal.Best(s, []int{10, 10, 10}))
	samples.Two(t, "not the width", 0, 0, api.ErrState)(seal.Best(s, []int{0, 11, 0}))
	samples.Two(t, "not the weight", 0, 0, api.ErrState)(seal.Best(s, []int{0, 0, 11}))
}

// TestLook is for P7.5: one size that decides, another one, one that leaves more, and none.
func TestLook(t *testing.T) {
	halves := func(size int) api.SealStatute {
		s := off(lengths(0, to(0, 0), to(0, 0), to(0, 0)), 0, 0, 0)
		for kind, span := range []api.Span{to(0, 10), to(11, 20), to(11, 30)} {
			s.Kinds[kind].Sizes[size] = span
		}
		s.Off[size] = 1
		return s
	}
	samples.Two(t, "the length", 0, 2, api.OK)(seal.Look(halves(0), []int{10, 0, 0}))
	samples.Two(t, "the width", 1, 2, api.OK)(seal.Look(halves(1), []int{0, 10, 0}))
	samples.Two(t, "the weight", 2, 2, api.OK)(seal.Look(halves(2), []int{0, 0, 11}))
	samples.Two(t, "the length, above", 0, 2, api.OK)(seal.Look(halves(0), []int{11, 0, 0}))
	samples.Two(t, "all are left", 0, 0, api.ErrTwice)(seal.Look(halves(0), []int{12, 0, 0}))
	samples.Two(t, "one kind", 0, 0, api.ErrTwice)(seal.Look(halves(0), []int{9, 0, 0}))
	samples.Two(t, "no kind", 0, 0, api.ErrTwice)(seal.Look(halves(0), []int{9, 9, 0}))
	samples.Two(t, "nothing is not known", 0, 0, api.ErrTwice)(seal.Look(off(halves(0), 0, 0, 0), []int{10, 0, 0}))

	s := off(lengths(0, to(0, 0), to(0, 0), to(0, 0)), 9, 9, 9)
	for size, spans := range [][]api.Span{{to(0, 5), to(5, 9), to(6, 9)}, {to(0, 5), to(6, 9), to(10, 19)}, {to(0, 5), to(6, 9), to(6, 9)}} {
		for kind, span := range spans {
			s.Kinds[kind].Sizes[size] = span
		}
	}
	samples.Two(t, "the one that leaves less", 1, 1, api.OK)(seal.Look(s, []int{5, 5, 5}))
	samples.Two(t, "of two kinds", 1, 1, api.OK)(seal.Look(off(s, 9, 4, 9), []int{5, 5, 5}))
	alike := set(s, func(s *api.SealStatute) {
		for kind := range s.Kinds {
			s.Kinds[kind].Sizes[1] = to(0, 19)
		}
	})
	samples.Two(t, "the first one of several", 0, 2, api.OK)(seal.Look(alike, []int{5, 5, 5}))
}

// TestAlike is for P7.6: spans with one integer in common, with none for one of the sizes, and all kinds of the most that there may be.
func TestAlike(t *testing.T) {
	pairs := func(list ...int) []api.SealPair {
		var all []api.SealPair
		for i := 0; i < len(list); i += 2 {
			all = append(all, api.SealPair{A: list[i], B: list[i+1]})
		}
		return all
	}
	samples.List[api.SealPair](t, "one", nil, api.OK)(seal.Alike(lengths(50, to(5, 5))))
	samples.List(t, "touching", pairs(0, 1), api.OK)(seal.Alike(lengths(0, to(5, 7), to(7, 9))))
	samples.List[api.SealPair](t, "not touching", nil, api.OK)(seal.Alike(off(lengths(50, to(5, 6), to(7, 9)), 20, 20, 20)))
	samples.List(t, "the other way", pairs(0, 1), api.OK)(seal.Alike(lengths(0, to(7, 9), to(5, 7))))
	samples.List(t, "one within", pairs(0, 1), api.OK)(seal.Alike(lengths(0, to(0, 2000), to(7, 7))))
	samples.List(t, "a chain", pairs(0, 1, 1, 2), api.OK)(seal.Alike(lengths(0, to(1, 3), to(3, 5), to(5, 9))))
	samples.List(t, "the ends", pairs(0, 2), api.OK)(seal.Alike(lengths(0, to(1, 3), to(4, 5), to(0, 1))))
	samples.List(t, "six", pairs(0, 1, 0, 2, 0, 3, 0, 4, 0, 5, 1, 2, 1, 3, 1, 4, 1, 5, 2, 3, 2, 4, 2, 5, 3, 4, 3, 5, 4, 5), api.OK)(seal.Alike(many(6)))
	for size := range 3 {
		s := many(2)
		s.Kinds[1].Sizes[size] = to(1, 1)
		samples.List[api.SealPair](t, "not by one size", nil, api.OK)(seal.Alike(s))
	}
}

// TestTorn is for P7.7: marks as long, with the same letters where they can be read, some of which are those of several kinds.
func TestTorn(t *testing.T) {
	s := many(6)
	for i, mark := range []string{"a", "ab", "abcdefgh", "ab", "zbcdefgz", "bb"} {
		s.Kinds[i].Mark = mark
	}
	for mark, want := range map[string][]int{
		"a": {0}, "?": {0}, "ab": {1, 3}, "a?": {1, 3}, "?b": {1, 3, 5}, "??": {1, 3, 5}, "b?": {5},
		"abcdefgh": {2}, "????????": {2, 4}, "?bcdefg?": {2, 4}, "???????z": {4}, "z???????": {4},
	} {
		torn(t, s, mark, want, api.OK)
	}
	for _, mark := range []string{"b", "z", "ac", "ba", "c?", "?c", "abc", "???", "???????", "abcdefgz", "zbcdefgh", "h???????"} {
		torn(t, s, mark, nil, api.ErrNone)
	}
}

// TestTornErrors is for P7.7 and R1: a mark that is not valid comes before that there is no such kind.
func TestTornErrors(t *testing.T) {
	for _, mark := range []string{
		"", "?????????", "abcdefghi", strings.Repeat("?", 1000), "A", "?A", "`", "{", "*", "1", " ", "a ", "?\n", "\x00", "\xff", "a\xff", "é", "?é", "\xbf?", "????????\x80", "a.",
	} {
		torn(t, statute(), mark, nil, api.ErrRange)
		torn(t, many(1), mark, nil, api.ErrRange)
	}
}

// forge returns what is forged of seals, that are days and numbers.
func forge(list ...int) ([]int, api.Errno) {
	var l []api.SealStrike
	for i := 0; i < len(list); i += 2 {
		l = append(l, strike(list[i], list[i+1]))
	}
	return seal.Forged(l)
}

// TestForged is for P7.8: seals of one day, with one number, in any order, and the most that there may be.
func TestForged(t *testing.T) {
	none := []int(nil)
	samples.List(t, "no seals", none, api.OK)(seal.Forged(nil))
	samples.List(t, "one", none, api.OK)(forge(400, 9999))
	samples.List(t, "in order", none, api.OK)(forge(1, 1, 2, 2, 400, 9999))
	samples.List(t, "in another order", none, api.OK)(forge(9, 5, 3, 1, 4, 2))
	samples.List(t, "of one day", none, api.OK)(forge(5, 7, 5, 3, 5, 9))
	samples.List(t, "one number of one day", []int{0}, api.OK)(forge(5, 7, 5, 7))
	samples.List(t, "one number of two days", []int{0}, api.OK)(forge(5, 7, 6, 7))
	samples.List(t, "three with one number", []int{0, 1}, api.OK)(forge(5, 7, 6, 7, 5, 7))
	samples.List(t, "of two ones the first one", []int{0}, api.OK)(forge(1, 2, 2, 1))
	samples.List(t, "the last one", []int{2}, api.OK)(forge(1, 1, 2, 3, 3, 2, 2, 4)) // not 1 and 3
	samples.List(t, "one instead of two", []int{1}, api.OK)(forge(3, 3, 1, 9, 4, 4))
	samples.List(t, "two pairs", []int{0, 2}, api.OK)(forge(1, 2, 2, 1, 3, 8, 4, 7))
	samples.List(t, "a day between", []int{1}, api.OK)(forge(5, 7, 6, 8, 5, 9))
	var rising, falling, same []api.SealStrike
	for i := range 12 {
		rising = append(rising, strike(i+1, i+1))
		falling = append(falling, strike(i+1, 12-i))
		same = append(same, strike(1, 1))
	}
	samples.List(t, "twelve", none, api.OK)(seal.Forged(rising))
	samples.List(t, "all but the last", []int{0, 1, 2, 3, 4, 5, 6, 7, 8, 9, 10}, api.OK)(seal.Forged(falling))
	samples.List(t, "all the same", []int{0, 1, 2, 3, 4, 5, 6, 7, 8, 9, 10}, api.OK)(seal.Forged(same))
}

// TestForgedErrors is for P7.8 and R1: how many seals there are comes before what they are; each limit is exceeded by one.
func TestForgedErrors(t *testing.T) {
	good := strike(1, 1)
	fails := func(want api.Errno, l ...api.SealStrike) {
		t.Helper()
		samples.List[int](t, "Forged", nil, want)(seal.Forged(l))
	}
	fails(api.ErrLong, slices.Repeat([]api.SealStrike{good}, 13)...)
	fails(api.ErrLong, make([]api.SealStrike, 13)...)
	fails(api.ErrLong, make([]api.SealStrike, 1000)...)
	fails(api.ErrArg, make([]api.SealStrike, 12)...)
	for _, x := range []api.SealStrike{
		strike(0, 1), strike(401, 1), strike(1, 0), strike(1, 10000), strike(-1, 1), strike(1, -1),
		strike(math.MinInt, 1), strike(math.MaxInt, 1), strike(1, math.MinInt), strike(1, math.MaxInt),
	} {
		fails(api.ErrArg, x)
		fails(api.ErrArg, good, good, x)
	}
}

// TestBookErrors is for P7.9, P7.10 and R1: the size, how many rows there are, and what they are, in this order.
func TestBookErrors(t *testing.T) {
	rows := make([]api.SealRow, 11)
	invalid := []api.SealRow{row(0, -1)}
	for _, size := range []int{-1, 3, math.MinInt, math.MaxInt} {
		expect(t, size, api.ErrNone, slices.Concat(booked(statute(), nil, size), booked(statute(), rows, size), booked(statute(), invalid, size))...)
	}
	for size := range 3 {
		expect(t, size, api.ErrLong, slices.Concat(booked(statute(), rows, size), booked(statute(), slices.Repeat(invalid, 11), size), booked(statute(), make([]api.SealRow, 1000), size))...)
		for _, r := range []api.SealRow{
			row(-1, 0), row(3, 0), row(0, -1), row(0, 2001), row(math.MinInt, 0), row(math.MaxInt, 0), row(0, math.MinInt), row(0, math.MaxInt),
		} {
			expect(t, r, api.ErrRange, slices.Concat(booked(statute(), []api.SealRow{r}, size), booked(statute(), append(rows[:9:9], r), size))...)
		}
	}
}

// TestCord is for P7.9: the ends of the shifts, those of several rows, and by how much the size was read wrong.
func TestCord(t *testing.T) {
	s := off(lengths(50, to(100, 110), to(200, 205), to(0, 0), to(2000, 2000)), 2, 0, 0)
	for name, x := range map[string]struct {
		rows []api.SealRow
		want []api.Span
	}{
		"no rows":            {nil, []api.Span{to(-30, 30)}},
		"one row":            {[]api.SealRow{row(0, 105)}, []api.Span{to(-7, 7)}},
		"above":              {[]api.SealRow{row(0, 140)}, []api.Span{to(-30, -28)}},
		"just above":         {[]api.SealRow{row(0, 142)}, []api.Span{to(-30, -30)}},
		"too far above":      {[]api.SealRow{row(0, 143)}, nil},
		"below":              {[]api.SealRow{row(0, 70)}, []api.Span{to(28, 30)}},
		"just below":         {[]api.SealRow{row(0, 68)}, []api.Span{to(30, 30)}},
		"too far below":      {[]api.SealRow{row(0, 67)}, nil},
		"two rows":           {[]api.SealRow{row(0, 105), row(1, 202)}, []api.Span{to(-4, 5)}},
		"one shift":          {[]api.SealRow{row(0, 105), row(1, 214)}, []api.Span{to(-7, -7)}},
		"no shift for both":  {[]api.SealRow{row(0, 105), row(1, 215)}, nil},
		"twice the same":     {[]api.SealRow{row(1, 202), row(1, 202)}, []api.Span{to(-4, 5)}},
		"ten rows":           {slices.Repeat([]api.SealRow{row(0, 90), row(1, 190)}, 5), []api.Span{to(8, 17)}},
		"nothing, read as 2": {[]api.SealRow{row(2, 2)}, []api.Span{to(-4, 0)}},
		"nothing, read as 0": {[]api.SealRow{row(2, 0)}, []api.Span{to(-2, 2)}},
		"the most":           {[]api.SealRow{row(3, 2000)}, []api.Span{to(-2, 2)}},
	} {
		samples.List(t, name, x.want, api.OK)(seal.Cord(s, x.rows, 0))
		want := api.OK
		if len(x.want) > 0 {
			want = api.ErrTwice
		}
		if _, _, e := seal.Wrong(s, x.rows, 0); e != want {
			t.Errorf("%s: Wrong = %d, not %d", name, e, want)
		}
	}
	for size, want := range []api.Span{to(-3, 43), to(-1, 11), to(-2, 42)} {
		read := []int{400, 60, 120}[size]
		samples.List(t, "of each size", []api.Span{to(want.Low, min(want.High, 30))}, api.OK)(seal.Cord(statute(), []api.SealRow{row(1, read)}, size))
	}
}

// TestWrong is for P7.10: the fewest rows, the smallest list of several, and the smallest shift for the others.
func TestWrong(t *testing.T) {
	s := off(lengths(50, to(100, 110), to(200, 205), to(0, 0)), 2, 0, 0)
	far, high, low := row(0, 2000), row(0, 130), row(0, 90)
	for name, x := range map[string]struct {
		rows []api.SealRow
		want []int
		at   int
	}{
		"one row":            {[]api.SealRow{far}, []int{0}, -30},
		"all of them":        {[]api.SealRow{far, row(2, 500), row(1, 0)}, []int{0, 1, 2}, -30},
		"ten of them":        {slices.Repeat([]api.SealRow{far}, 10), []int{0, 1, 2, 3, 4, 5, 6, 7, 8, 9}, -30},
		"the last one":       {[]api.SealRow{high, high, low}, []int{2}, -30},
		"the first one":      {[]api.SealRow{low, high, high}, []int{0}, -30},
		"the middle one":     {[]api.SealRow{low, high, low}, []int{1}, 8},
		"the smaller list":   {[]api.SealRow{low, high}, []int{0}, -30},
		"by a greater shift": {[]api.SealRow{high, low}, []int{0}, 8},
		"two of four":        {[]api.SealRow{low, high, high, low}, []int{0, 3}, -30},
		"two of five":        {[]api.SealRow{high, low, far, low, low}, []int{0, 2}, 8},
		"the least shift":    {[]api.SealRow{row(0, 105), row(1, 202), far}, []int{2}, -4},
	} {
		wrong(t, name, x.want, x.at, api.OK)(seal.Wrong(s, x.rows, 0))
	}
	wrong(t, "no rows", nil, 0, api.ErrTwice)(seal.Wrong(s, nil, 0))
}

package theft_test

import (
	"fmt"
	"math"
	"slices"
	"strings"
	"testing"

	"walkmill/api"
	"walkmill/samples"
	"walkmill/theft"
)

// listed fails unless all functions with cloths have an error, whatever their other arguments are: here these are not valid.
func listed(t *testing.T, cloths []api.TheftCloth, pieces []api.TheftPiece, want api.Errno) {
	t.Helper()
	name := func(function string) string { return fmt.Sprint(function, " of ", cloths, pieces) }
	if e := theft.Check(cloths, pieces); e != want {
		t.Errorf("%s = %d, not %d", name("Check"), e, want)
	}
	if want == api.OK {
		return
	}
	samples.List[int](t, name("Least"), nil, want)(theft.Least(cloths, pieces, -1))
	samples.Table[int](t, name("Owners"), nil, want)(theft.Owners(cloths, pieces))
	counted(t, name("Ways"), 0, nil, want)(theft.Ways(cloths, pieces))
	samples.List[int](t, name("Sure"), nil, want)(theft.Sure(cloths, pieces))
	samples.Two(t, name("Ask"), 0, 0, want)(theft.Ask(cloths, pieces))
	samples.List[int](t, name("False"), nil, want)(theft.False(cloths, pieces, slices.Repeat(say(is(-1, -1)), 9)))
}

// TestCheckLong is for P9.1 and R1: how many cloths and pieces there are comes before what they are; each limit can be reached, and is exceeded by one.
func TestCheckLong(t *testing.T) {
	bad, broken := api.TheftCloth{}, api.TheftPiece{}
	for _, x := range []struct {
		cloths, pieces int
		want           api.Errno
	}{
		{0, 0, api.OK}, {5, 6, api.OK}, {5, 0, api.OK}, {0, 6, api.OK}, {6, 0, api.ErrLong}, {0, 7, api.ErrLong}, {6, 7, api.ErrLong}, {1000, 1, api.ErrLong}, {1, 1000, api.ErrLong},
	} {
		listed(t, plain(slices.Repeat([]int{600}, x.cloths)...), bits(slices.Repeat([]int{100}, x.pieces)...), x.want)
		if x.want == api.ErrLong {
			listed(t, slices.Repeat(of(bad), x.cloths), slices.Repeat(some(broken), x.pieces), api.ErrLong)
		}
	}
	listed(t, of(bad), some(broken), api.ErrArg)
	listed(t, append(plain(1, 1, 1, 1), bad), bits(1), api.ErrArg)
	listed(t, plain(1), append(bits(1, 1, 1, 1, 1), broken), api.ErrForm)
	listed(t, nil, some(broken), api.ErrForm)
	listed(t, of(bad), nil, api.ErrArg)
}

// TestCheckCloths is for P9.1: each limit of a cloth can be reached, and is exceeded by one.
func TestCheckCloths(t *testing.T) {
	good := cloth(to(1, 600), to(0, 20), to(1, 99), "abcdwxyz")
	listed(t, of(good), nil, api.OK)
	listed(t, of(good, cloth(to(600, 600), to(80, 100), to(99, 99), "z"), cloth(to(1, 1), to(100, 100), to(1, 1), "a")), nil, api.OK)
	var bad []api.TheftCloth
	add := func(change func(c *api.TheftCloth)) {
		c := good
		change(&c)
		bad = append(bad, c)
	}
	for _, long := range samples.Faulty(1, 600) {
		add(func(c *api.TheftCloth) { c.Long = long })
	}
	for _, rate := range append(samples.Faulty(0, 100), to(0, 21), to(79, 100), to(0, 100)) {
		add(func(c *api.TheftCloth) { c.Rate = rate })
	}
	for _, threads := range samples.Faulty(1, 99) {
		add(func(c *api.TheftCloth) { c.Threads = threads })
	}
	for _, mark := range []string{"", "abcdefghi", "Anna", "ann?", "a na", "ann1", "`", "{", "é", "\xff", "a\x00", "a\n", strings.Repeat("a", 1000)} {
		add(func(c *api.TheftCloth) { c.Mark = mark })
	}
	for _, c := range bad {
		listed(t, of(c), nil, api.ErrArg)
		listed(t, of(good, c, good), bits(1), api.ErrArg)
		listed(t, of(good, good, good, good, c), some(api.TheftPiece{}), api.ErrArg)
	}
}

// faultyPieces are pieces that are not valid, each by one of its limits.
func faultyPieces(good api.TheftPiece) []api.TheftPiece {
	var bad []api.TheftPiece
	add := func(change func(p *api.TheftPiece)) {
		p := good
		change(&p)
		bad = append(bad, p)
	}
	for _, long := range []int{0, 601, -1, math.MinInt, math.MaxInt} {
		add(func(p *api.TheftPiece) { p.Long = long })
	}
	for _, off := range []int{-1, 21, math.MinInt, math.MaxInt} {
		add(func(p *api.TheftPiece) { p.Off = off })
	}
	for _, threads := range []int{0, 100, -1, math.MinInt, math.MaxInt} {
		add(func(p *api.TheftPiece) { p.Threads = threads })
	}
	for _, washed := range samples.Faulty(0, 5) {
		add(func(p *api.TheftPiece) { p.Washed = washed })
	}
	for _, mark := range []string{"abcdefghi", "?????????", "Ann?", "a na", "ann1", "a!", "é", "\xff", "\n"} {
		add(func(p *api.TheftPiece) { p.Mark = mark })
	}
	for _, edge := range []string{"0123456", "???????", "12a", "1 2", "/", ":", "-1", "1.", "é", "\xff", "1\n"} {
		add(func(p *api.TheftPiece) { p.Left = edge })
		add(func(p *api.TheftPiece) { p.Right = edge })
	}
	return bad
}

// TestCheckPieces is for P9.1: each limit of a piece can be reached, and is exceeded by one; Lay has the same errors.
func TestCheckPieces(t *testing.T) {
	good := api.TheftPiece{Long: 600, Off: 20, Threads: 99, Washed: to(0, 5), Mark: "ab?dwxyz", Left: "09?456", Right: "??????"}
	bare := piece(1, 0, 1, to(5, 5), "")
	listed(t, plain(1), some(good, bare, piece(1, 20, 1, to(0, 0), "????????"), edged("0", "9")), api.OK)
	for _, p := range faultyPieces(good) {
		listed(t, plain(1), some(p), api.ErrForm)
		listed(t, plain(1), some(good, p, bare), api.ErrForm)
		listed(t, nil, some(good, good, good, good, good, p), api.ErrForm)
		counted(t, fmt.Sprint("Lay of ", p), 0, nil, api.ErrForm)(theft.Lay(some(good, p)))
	}
	for _, many := range []int{7, 8, 1000} {
		counted(t, "Lay of many", 0, nil, api.ErrLong)(theft.Lay(slices.Repeat(some(good), many)))
		counted(t, "Lay of many that are faulty", 0, nil, api.ErrLong)(theft.Lay(make([]api.TheftPiece, many)))
	}
}

// TestLeast is for P9.2: pieces that are as long as they were, that shrank by what is rounded down, and that are measured wrong; the least rate and the fewest washings.
func TestLeast(t *testing.T) {
	for _, x := range []struct {
		rate      api.Span
		long, off int
		washed    api.Span
		want      int
	}{
		{to(0, 0), 100, 0, to(5, 5), 100}, {to(100, 100), 100, 0, to(0, 0), 100}, {to(0, 20), 100, 0, to(5, 5), 100}, {to(100, 100), 100, 0, to(0, 5), 100},
		{to(50, 50), 19, 0, to(1, 1), 19}, {to(50, 50), 20, 0, to(1, 1), 21}, {to(50, 50), 38, 0, to(1, 1), 39}, {to(50, 50), 39, 0, to(1, 1), 41},
		{to(100, 100), 9, 0, to(1, 1), 9}, {to(100, 100), 10, 0, to(1, 1), 11}, {to(100, 100), 18, 0, to(1, 1), 19}, {to(100, 100), 18, 0, to(2, 2), 21}, {to(100, 100), 18, 0, to(2, 5), 21}, {to(80, 100), 18, 0, to(2, 2), 20},
		{to(100, 100), 1, 0, to(5, 5), 1}, {to(100, 100), 20, 19, to(5, 5), 1}, {to(100, 100), 20, 20, to(5, 5), 1}, {to(100, 100), 1, 20, to(5, 5), 1}, {to(100, 100), 21, 19, to(5, 5), 2},
		{to(0, 0), 20, 10, to(0, 0), 10}, {to(50, 60), 140, 2, to(1, 2), 145}, {to(1, 1), 999 - 399, 0, to(1, 1), 600},
	} {
		p := piece(x.long, x.off, 1, x.washed, "")
		samples.List(t, fmt.Sprint("Least of ", x), []int{x.want}, api.OK)(theft.Least(of(cloth(to(1, 1), x.rate, to(99, 99), "z")), some(p), 0))
	}
	// The piece is longer than any cloth, and its threads and its mark are not those of this one.
	long := some(piece(600, 0, 1, to(5, 5), "ab"))
	samples.List(t, "Least of the greatest", []int{1013}, api.OK)(theft.Least(of(cloth(to(1, 1), to(100, 100), to(9, 9), "z")), long, 0))
	samples.List[int](t, "Least of nothing", nil, api.OK)(theft.Least(plain(1), nil, 0))
	for _, number := range []int{-1, 2, 5, math.MinInt, math.MaxInt} {
		samples.List[int](t, fmt.Sprint("Least of the cloth ", number), nil, api.ErrNone)(theft.Least(stolen(), left("????"), number))
	}
	samples.List[int](t, "Least without cloths", nil, api.ErrNone)(theft.Least(nil, nil, 0))
}

// TestOwners is for P9.3: threads, lengths and marks that are just so, or not; each piece by itself.
func TestOwners(t *testing.T) {
	anna := cloth(to(50, 100), to(0, 0), to(20, 22), "anna")
	for name, x := range map[string]struct {
		piece api.TheftPiece
		owned bool
	}{
		"the least threads":   {piece(10, 0, 20, to(0, 0), ""), true},
		"the most threads":    {piece(10, 0, 22, to(0, 0), ""), true},
		"too few threads":     {piece(10, 0, 19, to(0, 0), ""), false},
		"too many threads":    {piece(10, 0, 23, to(0, 0), ""), false},
		"as long":             {piece(100, 0, 21, to(5, 5), ""), true},
		"too long":            {piece(101, 0, 21, to(5, 5), ""), false},
		"too long, measured":  {piece(120, 20, 21, to(5, 5), ""), true},
		"much too long":       {piece(121, 20, 21, to(5, 5), ""), false},
		"the mark":            {piece(10, 0, 21, to(0, 0), "anna"), true},
		"its letters":         {piece(10, 0, 21, to(0, 0), "a??a"), true},
		"another letter":      {piece(10, 0, 21, to(0, 0), "a??b"), false},
		"all unpicked":        {piece(10, 0, 21, to(0, 0), "????"), true},
		"a shorter mark":      {piece(10, 0, 21, to(0, 0), "???"), false},
		"a longer mark":       {piece(10, 0, 21, to(0, 0), "?????"), false},
		"its beginning":       {piece(10, 0, 21, to(0, 0), "ann"), false},
		"nothing but threads": {piece(1, 20, 21, to(0, 5), ""), true},
	} {
		var want []int
		if x.owned {
			want = []int{0}
		}
		samples.Table(t, name, [][]int{want}, api.OK)(theft.Owners(of(anna), some(x.piece)))
	}
	// Washed twice the piece was 21 inches long at least.
	for long, want := range map[int][]int{20: nil, 21: {0}} {
		samples.Table(t, "washed", [][]int{want}, api.OK)(theft.Owners(of(cloth(to(1, long), to(100, 100), to(1, 1), "a")), some(piece(18, 0, 1, to(2, 5), ""))))
	}
	samples.Table(t, "all of all", slices.Repeat([][]int{{0, 1, 2, 3, 4}}, 6), api.OK)(theft.Owners(plain(9, 9, 9, 9, 9), bits(9, 9, 9, 9, 9, 9)))
	samples.Table(t, "some of some", [][]int{{1, 3}, {0, 1, 3}, nil}, api.OK)(theft.Owners(plain(5, 9, 3, 8), bits(7, 4, 10)))
	samples.Table(t, "no cloths", [][]int{nil, nil}, api.OK)(theft.Owners(nil, bits(1, 1)))
	samples.Table[int](t, "no pieces", nil, api.OK)(theft.Owners(plain(1), nil))
}

// TestWays is for P9.4 and P9.5: pieces that together are as long as a cloth, or longer, that shrink by one rate, and none.
func TestWays(t *testing.T) {
	shrinks := of(cloth(to(1, 41), to(90, 100), to(1, 1), "a"))
	late := piece(18, 0, 1, to(1, 1), "") // by 90 thousandths it was 19 inches long, by 100 too; washed twice 20 and 21
	twice := piece(18, 0, 1, to(2, 2), "")
	for name, x := range map[string]struct {
		cloths []api.TheftCloth
		pieces []api.TheftPiece
		many   int
		first  []int
		sure   []int
		e      api.Errno
	}{
		"no pieces":            {plain(1, 2), nil, 1, nil, nil, api.OK},
		"nothing":              {nil, nil, 1, nil, nil, api.OK},
		"no cloths":            {nil, bits(1), 0, nil, nil, api.ErrState},
		"too long":             {plain(5, 6), bits(7), 0, nil, nil, api.ErrState},
		"one of two":           {plain(5, 7), bits(7), 1, []int{1}, []int{1}, api.OK},
		"either":               {plain(7, 7), bits(7), 2, []int{0}, []int{-1}, api.OK},
		"each of one":          {plain(7, 7), bits(7, 7), 2, []int{0, 1}, []int{-1, -1}, api.OK},
		"together too long":    {plain(7, 7), bits(4, 4, 4), 0, nil, nil, api.ErrState},
		"just as long":         {plain(8), bits(4, 3, 1), 1, []int{0, 0, 0}, []int{0, 0, 0}, api.OK},
		"an inch too long":     {plain(7), bits(4, 3, 1), 0, nil, nil, api.ErrState},
		"one is sure":          {plain(9, 5), bits(6, 3, 2), 3, []int{0, 0, 1}, []int{0, -1, -1}, api.OK},
		"the greatest":         {plain(6, 6, 6, 6, 6), bits(1, 1, 1, 1, 1, 1), 15625, []int{0, 0, 0, 0, 0, 0}, slices.Repeat([]int{-1}, 6), api.OK},
		"the last one is sure": {plain(2, 2, 2, 2, 9), bits(1, 1, 1, 1, 1, 9), 600, []int{0, 0, 1, 1, 2, 4}, []int{-1, -1, -1, -1, -1, 4}, api.OK},
		"washed twice":         {shrinks, some(twice, twice), 1, []int{0, 0}, []int{0, 0}, api.OK},
		"washed three times":   {shrinks, some(twice, late, piece(2, 0, 1, to(0, 0), "")), 1, []int{0, 0, 0}, []int{0, 0, 0}, api.OK},
		"washed too often":     {shrinks, some(twice, late, piece(3, 0, 1, to(0, 0), "")), 0, nil, nil, api.ErrState},
	} {
		counted(t, name+": Ways", x.many, x.first, x.e)(theft.Ways(x.cloths, x.pieces))
		samples.List(t, name+": Sure", x.sure, x.e)(theft.Sure(x.cloths, x.pieces))
	}
}

// TestAsk is for P9.6: the piece of which it is best to learn the cloth, the first one of several, and none.
func TestAsk(t *testing.T) {
	for name, x := range map[string]struct {
		cloths      []api.TheftCloth
		pieces      []api.TheftPiece
		piece, left int
		e           api.Errno
	}{
		"no way":               {plain(5, 6), bits(7), 0, 0, api.ErrState},
		"no cloths":            {nil, bits(1), 0, 0, api.ErrState},
		"no pieces":            {plain(5, 6), nil, 0, 0, api.ErrTwice},
		"one way":              {plain(5, 7), bits(7), 0, 0, api.ErrTwice},
		"either":               {plain(7, 7), bits(7), 0, 1, api.OK},
		"all alike":            {plain(7, 7), bits(7, 7), 0, 1, api.OK},
		"the first is sure":    {plain(9, 5), bits(6, 3, 2), 1, 2, api.OK},
		"all are free":         {plain(9, 9, 9), bits(1, 1, 1), 0, 9, api.OK},
		"the least is left":    {plain(4, 4, 4), bits(4, 1, 1), 0, 4, api.OK},
		"as good as the first": {plain(4, 4, 3), bits(1, 4, 1), 0, 4, api.OK},
		"the last is best":     {plain(9, 9, 4), bits(5, 5, 1), 2, 2, api.OK},
		"one that is of none":  {plain(9, 9, 9), set(bits(1, 1, 1), 0, piece(1, 0, 2, to(0, 0), "")), 0, 0, api.ErrState},
	} {
		samples.Two(t, name, x.piece, x.left, x.e)(theft.Ask(x.cloths, x.pieces))
	}
	two := append(plain(9, 9), cloth(to(9, 9), to(0, 0), to(1, 1), "b"))
	marked := some(piece(1, 0, 1, to(0, 0), "a"), piece(1, 0, 1, to(0, 0), "?"), piece(1, 0, 1, to(0, 0), "b"))
	samples.Two(t, "one that can be of more", 1, 2, api.OK)(theft.Ask(two, marked))
}

// TestFalse is for P9.7: claims that contradict each other, or what is so; the fewest, and the smallest list of several.
func TestFalse(t *testing.T) {
	cloths, pieces := plain(7, 7, 4), bits(7, 4) // the first piece is of 0 or 1, the second one of another cloth than it
	for name, x := range map[string]struct {
		claims []api.TheftClaim
		want   []int
		e      api.Errno
	}{
		"no claims":                {nil, nil, api.ErrTwice},
		"one that can be true":     {say(is(0, 1)), nil, api.ErrTwice},
		"all can be true":          {say(is(0, 1), isNot(0, 0), is(1, 2), isNot(1, 1)), nil, api.ErrTwice},
		"one that cannot":          {say(is(0, 2)), []int{0}, api.OK},
		"the last one cannot":      {say(is(0, 1), isNot(0, 2), is(0, 2)), []int{2}, api.OK},
		"one of two":               {say(is(0, 1), is(0, 0)), []int{0}, api.OK},
		"the one of three":         {say(is(0, 1), is(0, 0), isNot(0, 1)), []int{0}, api.OK},
		"both pieces":              {say(is(0, 1), is(1, 1)), []int{0}, api.OK},
		"one that two contradict":  {say(is(0, 1), is(1, 1), is(1, 1)), []int{0}, api.OK},
		"the second contradicts":   {say(is(1, 1), is(0, 1), is(1, 1)), []int{1}, api.OK},
		"neither":                  {say(isNot(0, 0), isNot(0, 1)), []int{0}, api.OK},
		"of no cloth":              {say(isNot(1, 0), isNot(1, 1), isNot(1, 2)), []int{0}, api.OK},
		"said again":               {slices.Repeat(say(is(0, 2)), 8), []int{0, 1, 2, 3, 4, 5, 6, 7}, api.OK},
		"most of eight":            {say(is(0, 0), is(0, 1), is(0, 0), is(0, 1), is(0, 0), is(0, 1), is(0, 1), is(0, 2)), []int{0, 2, 4, 7}, api.OK},
		"that it is and is not":    {say(is(1, 2), isNot(1, 2)), []int{0}, api.OK},
		"the fewest, not the ones": {say(is(1, 2), isNot(1, 2), isNot(1, 2)), []int{0}, api.OK},
	} {
		samples.List(t, name, x.want, x.e)(theft.False(cloths, pieces, x.claims))
	}
}

// TestFalseErrors is for P9.7 and R1: how many claims there are comes before what they are, this before whether there is a way; each limit is exceeded by one.
func TestFalseErrors(t *testing.T) {
	fails := func(want api.Errno, cloths []api.TheftCloth, pieces []api.TheftPiece, claims ...api.TheftClaim) {
		t.Helper()
		samples.List[int](t, fmt.Sprint("False of ", cloths, pieces, claims), nil, want)(theft.False(cloths, pieces, claims))
	}
	for _, pieces := range [][]api.TheftPiece{bits(5, 4), bits(9, 9)} { // with ways, and without one
		fails(api.ErrFull, plain(9), pieces, slices.Repeat(say(is(0, 0)), 9)...)
		fails(api.ErrFull, plain(9), pieces, slices.Repeat(say(is(-1, 7)), 1000)...)
		for _, bad := range say(is(-1, 0), is(2, 0), is(0, -1), is(0, 1), isNot(2, 0), isNot(0, 1), is(math.MinInt, 0), is(math.MaxInt, 0), is(0, math.MinInt), is(0, math.MaxInt)) {
			fails(api.ErrRange, plain(9), pieces, bad)
			fails(api.ErrRange, plain(9), pieces, append(slices.Repeat(say(is(0, 0)), 7), bad)...)
		}
	}
	fails(api.ErrRange, nil, nil, is(0, 0))
	fails(api.ErrRange, nil, bits(1), is(0, 0))
	fails(api.ErrRange, plain(1), nil, is(0, 0))
	fails(api.ErrState, nil, bits(1))
	fails(api.ErrState, plain(9), bits(9, 9), slices.Repeat(say(is(0, 0)), 8)...)
	fails(api.ErrTwice, plain(9), bits(5, 4), slices.Repeat(say(is(1, 0)), 8)...)
	fails(api.ErrTwice, nil, nil)
}

// TestLay is for P9.8: edges that fit, that are frayed, that have not as many signs, or none.
func TestLay(t *testing.T) {
	two := func(right, left string) []api.TheftPiece { return some(edged("0", right), edged(left, "9")) }
	for name, x := range map[string]struct {
		pieces []api.TheftPiece
		many   int
		first  []int
	}{
		"nothing":             {nil, 1, nil},
		"one":                 {some(edged("", "")), 1, []int{0}},
		"one that fits":       {some(edged("1", "1")), 1, []int{0}},
		"two":                 {two("12", "12"), 1, []int{0, 1}},
		"the other way":       {some(edged("12", "3"), edged("4", "12")), 1, []int{1, 0}},
		"both ways":           {some(edged("1", "2"), edged("2", "1")), 2, []int{0, 1}},
		"another sign":        {two("12", "13"), 0, nil},
		"frayed right":        {two("1?", "13"), 1, []int{0, 1}},
		"frayed left":         {two("12", "?2"), 1, []int{0, 1}},
		"frayed both":         {two("1?", "?2"), 1, []int{0, 1}},
		"frayed, another":     {two("1?3", "?24"), 0, nil},
		"all frayed":          {two("??????", "??????"), 1, []int{0, 1}},
		"fewer signs":         {two("1", "12"), 0, nil},
		"more signs":          {two("123", "12"), 0, nil},
		"frayed, fewer signs": {two("???", "??"), 0, nil},
		"no signs":            {two("", ""), 0, nil},
		"none on the left":    {two("1", ""), 0, nil},
		"none on the right":   {two("", "1"), 0, nil},
		"six that fit":        {slices.Repeat(some(edged("?", "1")), 6), 720, []int{0, 1, 2, 3, 4, 5}},
		"six, one first":      {append(slices.Repeat(some(edged("1", "1")), 5), edged("2", "1")), 120, []int{5, 0, 1, 2, 3, 4}},
		"six, one last":       {append(some(edged("1", "2")), slices.Repeat(some(edged("1", "1")), 5)...), 120, []int{1, 2, 3, 4, 5, 0}},
		"six in a ring":       {some(edged("1", "2"), edged("6", "1"), edged("2", "3"), edged("5", "6"), edged("3", "4"), edged("4", "5")), 6, []int{0, 2, 4, 5, 3, 1}},
		"two that are alone":  {some(edged("1", "2"), edged("2", "3"), edged("7", "8")), 0, nil},
	} {
		e := api.OK
		if x.many == 0 {
			e = api.ErrState
		}
		counted(t, name, x.many, x.first, e)(theft.Lay(x.pieces))
	}
}

// watched fails unless Thieves and Lied have an error.
func watched(t *testing.T, want api.Errno, persons int, gone api.Span, sights ...api.TheftSight) {
	t.Helper()
	name := fmt.Sprint(persons, gone, sights)
	samples.List[int](t, "Thieves of "+name, nil, want)(theft.Thieves(persons, sights, gone))
	samples.List[int](t, "Lied of "+name, nil, want)(theft.Lied(persons, sights, gone))
}

// TestWatchErrors is for P9.9, P9.10 and R1: the persons and the time come before how many sights there are, and this before what they are; each limit can be reached, and is exceeded by one.
func TestWatchErrors(t *testing.T) {
	many, bad := make([]api.TheftSight, 13), sight(-1, -1, -1)
	for _, persons := range []int{-1, 0, 9, math.MinInt, math.MaxInt} {
		watched(t, api.ErrRange, persons, to(0, 0))
		watched(t, api.ErrRange, persons, to(0, 0), many...)
	}
	for _, gone := range samples.Faulty(0, 1440) {
		watched(t, api.ErrRange, 1, gone, bad)
		watched(t, api.ErrRange, 1, gone, many...)
	}
	watched(t, api.ErrLong, 1, to(0, 0), many...)
	watched(t, api.ErrLong, 1, to(0, 0), slices.Repeat(saw(bad), 1000)...)
	for _, s := range saw(bad, sight(-1, 0, 0), sight(3, 0, 0), sight(0, -1, 0), sight(0, 1441, 0), sight(0, 0, -1), sight(0, 0, 601),
		sight(math.MinInt, 0, 0), sight(math.MaxInt, 0, 0), sight(0, math.MinInt, 0), sight(0, math.MaxInt, 0), sight(0, 0, math.MinInt), sight(0, 0, math.MaxInt)) {
		watched(t, api.ErrArg, 3, to(0, 1440), s)
		watched(t, api.ErrArg, 3, to(0, 1440), append(slices.Repeat(saw(sight(2, 1440, 600)), 11), s)...)
	}
	samples.List(t, "Thieves of the greatest", samples.UpTo(8), api.OK)(theft.Thieves(8, slices.Repeat(saw(sight(7, 1440, 600)), 12), to(0, 1440)))
	samples.List(t, "Lied of the greatest", samples.UpTo(12), api.OK)(theft.Lied(1, slices.Repeat(saw(sight(0, 0, 600)), 12), to(0, 599)))
}

// TestThieves is for P9.9: minutes at which a person can just be there, or not; the minute of a sight itself, and persons whom nobody saw.
func TestThieves(t *testing.T) {
	for name, x := range map[string]struct {
		persons int
		gone    api.Span
		sights  []api.TheftSight
		want    []int
	}{
		"nobody was seen":      {3, to(0, 0), nil, []int{0, 1, 2}},
		"one was seen":         {3, to(100, 100), saw(sight(1, 100, 1)), []int{0, 2}},
		"on the field":         {2, to(100, 100), saw(sight(1, 100, 0)), []int{0, 1}},
		"just in time":         {1, to(100, 100), saw(sight(0, 90, 10)), []int{0}},
		"too late":             {1, to(100, 100), saw(sight(0, 90, 11)), nil},
		"just back":            {1, to(100, 100), saw(sight(0, 110, 10)), []int{0}},
		"not yet back":         {1, to(100, 100), saw(sight(0, 110, 11)), nil},
		"at the last minute":   {1, to(50, 100), saw(sight(0, 90, 10)), []int{0}},
		"before it":            {1, to(80, 99), saw(sight(0, 90, 10)), []int{0}},
		"between":              {1, to(81, 99), saw(sight(0, 90, 10)), nil},
		"between two sights":   {1, to(0, 1440), saw(sight(0, 700, 600), sight(0, 1440, 140), sight(0, 0, 100)), []int{0}},
		"only between them":    {1, to(80, 120), saw(sight(0, 90, 10), sight(0, 111, 11)), []int{0}},
		"not between them":     {1, to(81, 121), saw(sight(0, 90, 11), sight(0, 111, 11)), nil},
		"each by its own":      {2, to(100, 100), saw(sight(0, 90, 11), sight(1, 100, 0), sight(1, 90, 10)), []int{1}},
		"all of them are away": {2, to(100, 100), saw(sight(0, 90, 11), sight(1, 109, 10)), nil},
	} {
		samples.List(t, name, x.want, api.OK)(theft.Thieves(x.persons, x.sights, x.gone))
	}
}

// TestLied is for P9.10: the fewest sights of one person, the smallest list of several, and none.
func TestLied(t *testing.T) {
	for name, x := range map[string]struct {
		persons int
		gone    api.Span
		sights  []api.TheftSight
		want    []int
		e       api.Errno
	}{
		"nobody was seen":       {3, to(0, 0), nil, nil, api.ErrTwice},
		"somebody was not seen": {2, to(0, 0), saw(sight(0, 0, 1)), nil, api.ErrTwice},
		"one sight":             {1, to(100, 100), saw(sight(0, 90, 11)), []int{0}, api.OK},
		"one of two":            {1, to(100, 110), saw(sight(0, 90, 15), sight(0, 130, 30)), []int{0}, api.OK},
		"the second of two":     {1, to(100, 110), saw(sight(0, 90, 10), sight(0, 130, 31)), []int{1}, api.OK},
		"both":                  {1, to(100, 100), saw(sight(0, 90, 11), sight(0, 110, 11)), []int{0, 1}, api.OK},
		"the one with fewer":    {2, to(100, 100), saw(sight(0, 90, 11), sight(0, 110, 11), sight(1, 100, 1)), []int{2}, api.OK},
		"the smaller one":       {2, to(100, 100), saw(sight(1, 90, 11), sight(0, 110, 11)), []int{0}, api.OK},
		"the minute with fewer": {1, to(100, 140), saw(sight(0, 101, 5), sight(0, 101, 5), sight(0, 130, 25)), []int{2}, api.OK},
		"the later minute":      {1, to(100, 110), saw(sight(0, 105, 30), sight(0, 110, 6), sight(0, 100, 5)), []int{0, 1}, api.OK},
		"the earlier minute":    {1, to(100, 110), saw(sight(0, 105, 30), sight(0, 100, 6), sight(0, 110, 5)), []int{0, 1}, api.OK},
		"others are true":       {1, to(100, 100), saw(sight(0, 0, 100), sight(0, 95, 6), sight(0, 200, 100)), []int{1}, api.OK},
	} {
		samples.List(t, name, x.want, x.e)(theft.Lied(x.persons, x.sights, x.gone))
	}
}

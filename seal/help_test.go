package seal_test

import (
	"iter"
	"slices"
	"testing"

	"walkmill/api"
	"walkmill/samples"
	"walkmill/seal"
)

// to, kind, strike and row write spans and what is made of them shortly.
func to(low, high int) api.Span { return api.Span{Low: low, High: high} }

func kind(long, wide, heavy api.Span, mark string) api.SealKind {
	return api.SealKind{Sizes: []api.Span{long, wide, heavy}, Mark: mark}
}

func strike(day, number int) api.SealStrike { return api.SealStrike{Day: day, Number: number} }

func row(kind, reading int) api.SealRow { return api.SealRow{Kind: kind, Reading: reading} }

// statute is the statute of the chapter's examples.
func statute() api.SealStatute {
	return api.SealStatute{
		Kinds: []api.SealKind{
			kind(to(900, 960), to(60, 64), to(300, 340), "broad"),
			kind(to(400, 440), to(60, 70), to(120, 160), "kersey"),
			kind(to(400, 480), to(36, 44), to(100, 150), "straits"),
		},
		Grace: 10, Fine: 4, Off: []int{3, 1, 2},
	}
}

// lengths is a statute of kinds that have only a length: their other sizes are 0, and nothing is read wrong.
func lengths(grace int, spans ...api.Span) api.SealStatute {
	s := api.SealStatute{Grace: grace, Fine: 1, Off: []int{0, 0, 0}}
	for _, long := range spans {
		s.Kinds = append(s.Kinds, kind(long, to(0, 0), to(0, 0), "a"))
	}
	return s
}

// off is a statute with a cord and scales that are wrong by this at most.
func off(s api.SealStatute, off ...int) api.SealStatute {
	s.Off = off
	return s
}

// twin is a statute that shares no memory with another one.
func twin(s api.SealStatute) api.SealStatute {
	s.Kinds, s.Off = slices.Clone(s.Kinds), slices.Clone(s.Off)
	for i := range s.Kinds {
		s.Kinds[i].Sizes = slices.Clone(s.Kinds[i].Sizes)
	}
	return s
}

// set is a statute with a change.
func set(s api.SealStatute, change func(s *api.SealStatute)) api.SealStatute {
	s = twin(s)
	change(&s)
	return s
}

// truths yields what the sizes can truly be, by what was read.
func truths(s api.SealStatute, read []int) iter.Seq[[]int] {
	var spans []api.Span
	for size, x := range read {
		spans = append(spans, to(x-s.Off[size], x+s.Off[size]))
	}
	return func(yield func([]int) bool) {
		for x := range samples.Lists(spans...) {
			if slices.Min(x) >= 0 && !yield(x) {
				return
			}
		}
	}
}

// miss is by how much a number is beyond a span.
func miss(x int, s api.Span) int {
	switch {
	case x < s.Low:
		return s.Low - x
	case x > s.High:
		return x - s.High
	}
	return 0
}

// verdict is what the statute says of a cloth and a kind: whether it is of it, whether it can be sealed as of it, and for which fine.
type verdict struct {
	is, seals bool
	fine      int
}

// judge is the verdict on a cloth of which the sizes are known.
func judge(s api.SealStatute, kind int, x []int) verdict {
	v := verdict{is: true, seals: true}
	for size, span := range s.Kinds[kind].Sizes {
		beyond := miss(x[size], span)
		v.is = v.is && beyond == 0
		v.seals = v.seals && beyond <= s.Grace
		v.fine += s.Fine * beyond
	}
	return v
}

// tally is what the count of all truths says of a kind: in how many of them the cloth is of it, and can be sealed as of it, and with which fines.
type tally struct {
	truths, is, seals int
	fine              api.Span
}

// count counts all truths, kind by kind.
func count(s api.SealStatute, read []int) []tally {
	list := make([]tally, len(s.Kinds))
	for x := range truths(s, read) {
		for kind := range list {
			v, all := judge(s, kind, x), &list[kind]
			all.truths++
			if v.is {
				all.is++
			}
			if v.seals {
				all.fine = samples.Wider(all.fine, v.fine, all.seals)
				all.seals++
			}
		}
	}
	return list
}

// bestOf is the kind as of which a cloth can be sealed in all truths for the least of the greatest fines, and whether there is one.
func bestOf(list []tally) (best int, found bool) {
	for kind, all := range list {
		if all.seals == all.truths && (!found || all.fine.High < list[best].fine.High) {
			best, found = kind, true
		}
	}
	return best, found
}

// mostLeft counts, for each size and all that can be found of it, the kinds that are possible then, and returns the most of each size; and how many are possible now.
func mostLeft(s api.SealStatute, read []int) (most [3]int, now int) {
	type finding struct{ size, number int }
	left := map[finding]map[int]bool{}
	for x := range truths(s, read) {
		for size, number := range x {
			f := finding{size, number}
			if left[f] == nil {
				left[f] = map[int]bool{}
			}
			for kind := range s.Kinds {
				if judge(s, kind, x).is {
					left[f][kind] = true
				}
			}
		}
	}
	for f, kinds := range left {
		most[f.size] = max(most[f.size], len(kinds))
	}
	for _, all := range count(s, read) {
		now += min(1, all.is)
	}
	return most, now
}

// alike reports whether for each size there is an integer that is in the spans of two kinds.
func alike(a, b api.SealKind) bool {
	for size := range 3 {
		x := 0
		for x <= api.MaxSealSize && miss(x, a.Sizes[size])+miss(x, b.Sizes[size]) > 0 {
			x++
		}
		if x > api.MaxSealSize {
			return false
		}
	}
	return true
}

// tornOf are the kinds whose marks, with some of their letters that cannot be read, are a torn one.
func tornOf(s api.SealStatute, torn string) []int {
	var list []int
	for i, k := range s.Kinds {
		for _, places := range samples.Sets(len(k.Mark)) {
			if samples.Tear(k.Mark, places...) == torn {
				list = append(list, i)
				break
			}
		}
	}
	return list
}

// genuine reports whether the numbers of seals ascend.
func genuine(l []api.SealStrike) bool {
	for i, a := range l {
		for j, b := range l {
			if i != j && a.Number == b.Number || a.Day < b.Day && a.Number > b.Number {
				return false
			}
		}
	}
	return true
}

// forgedOf is the first one of all sets of seals without which the others are genuine.
func forgedOf(l []api.SealStrike) []int {
	for _, set := range samples.Sets(len(l)) {
		var left []api.SealStrike
		for i, x := range l {
			if !slices.Contains(set, i) {
				left = append(left, x)
			}
		}
		if genuine(left) {
			return set
		}
	}
	return nil
}

// right reports whether some integer of a kind's span can be what was there when a row was read, with a shift.
func right(s api.SealStatute, r api.SealRow, size, shift int) bool {
	for x := range api.MaxSealSize + 1 {
		if miss(x, s.Kinds[r.Kind].Sizes[size]) == 0 && miss(x, to(r.Reading+shift, r.Reading+shift)) <= s.Off[size] {
			return true
		}
	}
	return false
}

// wrongRows are the rows that are not right, for each shift.
func wrongRows(s api.SealStatute, rows []api.SealRow, size int) map[int][]int {
	all := map[int][]int{}
	for shift := -api.MaxSealShift; shift <= api.MaxSealShift; shift++ {
		all[shift] = []int{}
		for i, r := range rows {
			if !right(s, r, size, shift) {
				all[shift] = append(all[shift], i)
			}
		}
	}
	return all
}

// cordOf are the shifts with which all rows are right, as spans.
func cordOf(s api.SealStatute, rows []api.SealRow, size int) []api.Span {
	var list []api.Span
	for shift, all := -api.MaxSealShift, wrongRows(s, rows, size); shift <= api.MaxSealShift; shift++ {
		switch last := len(list) - 1; {
		case len(all[shift]) > 0:
		case last >= 0 && list[last].High == shift-1:
			list[last].High = shift
		default:
			list = append(list, to(shift, shift))
		}
	}
	return list
}

// wrongOf is the first one of all sets of rows without which there is a shift with which the others are right, and the first such shift.
func wrongOf(s api.SealStatute, rows []api.SealRow, size int) (set []int, shift int) {
	all := wrongRows(s, rows, size)
	for _, set := range samples.Sets(len(rows)) {
		for shift := -api.MaxSealShift; shift <= api.MaxSealShift; shift++ {
			if !slices.ContainsFunc(all[shift], func(i int) bool { return !slices.Contains(set, i) }) {
				return set, shift
			}
		}
	}
	return nil, 0
}

// dice make what is tried here.
type dice struct{ samples.Dice }

// measure says which statutes are made: how many kinds there are, how large cloths are, how far apart kinds are, how wide their spans, how much grace and fines are, by how much readings are wrong, and how long marks are.
type measure struct{ kinds, size, apart, wide, grace, fine, off, mark int }

// small statutes have few truths, great ones are of any valid size.
var (
	small = measure{kinds: 4, size: 14, apart: 6, wide: 5, grace: 4, fine: 5, off: 2, mark: 3}
	great = measure{kinds: api.MaxSealKinds, size: api.MaxSealSize, apart: 60, wide: 50, grace: api.MaxSealGrace, fine: api.MaxSealFine, off: api.MaxSealOff, mark: api.MaxSealMark}
)

// mark makes a mark; few letters are in many of them.
func (d *dice) mark(longest int) string {
	var letters []byte
	for range d.From(1, longest) {
		letters = append(letters, byte(d.From('a', 'c')))
	}
	return string(letters)
}

// statute makes a statute; some of its kinds are near to each other.
func (d *dice) statute(z measure) api.SealStatute {
	s := api.SealStatute{Grace: d.From(0, z.grace), Fine: d.From(0, z.fine)}
	var from [3]int
	for size := range from {
		from[size] = d.From(0, z.size-z.apart)
		s.Off = append(s.Off, d.From(0, z.off))
	}
	for range d.From(1, z.kinds) {
		k := api.SealKind{Mark: d.mark(z.mark)}
		for _, low := range from {
			k.Sizes = append(k.Sizes, d.Span(low, low+z.apart, z.wide))
		}
		s.Kinds = append(s.Kinds, k)
	}
	return s
}

// reading makes a reading of a cloth that is of a kind, or not far from it.
func (d *dice) reading(s api.SealStatute) []int {
	k := s.Kinds[d.From(0, len(s.Kinds)-1)]
	far := d.From(0, s.Grace)
	var read []int
	for size, span := range k.Sizes {
		x := d.From(span.Low-far, span.High+far) + d.From(-s.Off[size], s.Off[size])
		read = append(read, min(max(x, 0), api.MaxSealSize))
	}
	return read
}

// truth makes a truth of a reading.
func (d *dice) truth(s api.SealStatute, read []int) []int {
	var x []int
	for size, number := range read {
		x = append(x, d.From(max(0, number-s.Off[size]), number+s.Off[size]))
	}
	return x
}

// strikes makes so many seals in any order, of which just some are given another number.
func (d *dice) strikes(n int, changed []int) []api.SealStrike {
	l := make([]api.SealStrike, n)
	day, number := 1, 0
	for _, place := range d.Mixed(n) {
		number += d.From(1, 3)
		if d.From(0, 2) > 0 {
			day += d.From(1, 3)
		}
		l[place] = strike(day, number)
	}
	for _, place := range changed {
		l[place].Number = d.From(1, number+2)
	}
	return l
}

// rows makes up to so many rows of a size, that were read by a cord that was wrong by a shift.
func (d *dice) rows(s api.SealStatute, size, n, shift int) []api.SealRow {
	var rows []api.SealRow
	for range n {
		kind := d.From(0, len(s.Kinds)-1)
		span := s.Kinds[kind].Sizes[size]
		reading := d.From(span.Low, span.High) - shift + d.From(-s.Off[size], s.Off[size])
		if reading >= 0 && reading <= api.MaxSealSize {
			rows = append(rows, row(kind, reading))
		}
	}
	return rows
}

// slip writes some rows wrong.
func (d *dice) slip(rows []api.SealRow, places []int) {
	for _, place := range places {
		rows[place].Reading = d.From(max(0, rows[place].Reading-70), min(rows[place].Reading+70, api.MaxSealSize))
	}
}

// possibly and cord ask what must not have an error.
func possibly(t *testing.T, s api.SealStatute, read []int) []int {
	t.Helper()
	_, list, e := seal.Kinds(s, read)
	if e != api.OK {
		t.Fatalf("Kinds(%v, %v) = %d", s, read, e)
	}
	return list
}

func cord(t *testing.T, s api.SealStatute, rows []api.SealRow, size int) []api.Span {
	t.Helper()
	list, e := seal.Cord(s, rows, size)
	if e != api.OK {
		t.Fatalf("Cord(%v, %v, %d) = %v, %d", s, rows, size, list, e)
	}
	return list
}

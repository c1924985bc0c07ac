package seal_test

import (
	"fmt"
	"math"
	"slices"
	"testing"

	"walkmill/api"
	"walkmill/samples"
	"walkmill/seal"
)

// question is what the functions are asked.
type question struct {
	s       api.SealStatute
	read    []int
	kind    int
	mark    string
	strikes []api.SealStrike
	rows    []api.SealRow
	size    int
}

// ask returns the results of all functions.
func ask(q question) []any {
	all := []any{seal.Check(q.s)}
	collect := func(results ...any) { all = append(all, results...) }
	surely, possibly, e := seal.Kinds(q.s, q.read)
	collect(surely, possibly, e)
	span, e := seal.Fine(q.s, q.read, q.kind)
	collect(span, e)
	kind, fine, e := seal.Best(q.s, q.read)
	collect(kind, fine, e)
	size, left, e := seal.Look(q.s, q.read)
	collect(size, left, e)
	pairs, e := seal.Alike(q.s)
	collect(pairs, e)
	torn, e := seal.Torn(q.s, q.mark)
	collect(torn, e)
	forged, e := seal.Forged(q.strikes)
	collect(forged, e)
	spans, e := seal.Cord(q.s, q.rows, q.size)
	collect(spans, e)
	wrong, shift, e := seal.Wrong(q.s, q.rows, q.size)
	collect(wrong, shift, e)
	return all
}

// copied is a question that shares no memory with another one.
func copied(q question) question {
	q.s, q.read, q.strikes, q.rows = twin(q.s), slices.Clone(q.read), slices.Clone(q.strikes), slices.Clone(q.rows)
	return q
}

// tame makes questions that are valid.
func tame(d *dice) question {
	q := question{s: d.statute([]measure{small, great}[d.From(0, 1)]), size: d.From(0, 2)}
	q.read, q.kind = d.reading(q.s), d.From(0, len(q.s.Kinds)-1)
	mark := q.s.Kinds[q.kind].Mark
	q.mark = samples.Tear(mark, d.Some(d.From(0, len(mark)), len(mark))...)
	q.strikes = d.strikes(8, d.Some(d.From(0, 4), 8))
	q.rows = d.rows(q.s, q.size, d.From(0, api.MaxSealRows), d.From(-40, 40))
	d.slip(q.rows, d.Some(len(q.rows)/3, len(q.rows)))
	return q
}

// wild makes questions with any numbers, many of which are not valid.
func wild(d *dice) question {
	number := func() int {
		return []int{math.MinInt, -30, -1, 0, 1, 2, 3, 8, 20, 50, 100, 400, 2000, 9999, math.MaxInt - 1, math.MaxInt}[d.From(0, 15)]
	}
	span := func() api.Span { return to(number(), number()) }
	q := tame(d)
	switch d.From(0, 10) {
	case 0:
		q.s.Kinds = append(q.s.Kinds, kind(span(), span(), span(), "a"))
	case 1:
		q.s.Kinds[0].Sizes = q.s.Kinds[0].Sizes[:d.From(0, 2)]
	case 2:
		q.s.Grace, q.s.Fine = number(), number()
	case 3:
		q.s.Off = append(q.s.Off[d.From(0, 1):], number())
	case 4:
		q.s.Kinds[0].Mark = []string{"", "?", "\xff", "aaaaaaaaa"}[d.From(0, 3)]
	case 5:
		q.read = append(q.read[1:], number())
	case 6:
		q.kind, q.size = number(), number()
	case 7:
		q.mark = []string{"", "a?", "é", "\xff", "?????????", "zz"}[d.From(0, 5)]
	case 8:
		q.strikes = append(q.strikes, strike(number(), number()))
	case 9:
		q.rows = append(q.rows, row(number(), number()))
	}
	if d.From(0, 9) == 0 {
		n := d.From(0, 2)
		q.s.Kinds, q.s.Off, q.read = slices.Repeat(q.s.Kinds, n), slices.Repeat(q.s.Off, n), slices.Repeat(q.read, n)
		q.strikes, q.rows = slices.Repeat(q.strikes, n), slices.Repeat(q.rows, n)
	}
	return q
}

// TestAnyArguments is for P1 and P2: whatever the arguments are, each function ends, does not panic, and answers alike.
func TestAnyArguments(t *testing.T) {
	d := dice{17}
	thrown := func() question { return wild(&d) }
	samples.AnyArguments(t, 2000, thrown, copied, ask, fmt.Sprint, api.OK, api.ErrArg, api.ErrRange, api.ErrForm, api.ErrLong, api.ErrTwice, api.ErrNone, api.ErrState)
}

// spare is a question whose lists have spare room, and one with all of this room.
func spare(q question) (with, room question) {
	with = copied(q)
	with.s.Off, with.read = samples.Roomy(q.s.Off, 77), samples.Roomy(q.read, 77)
	with.strikes, with.rows = samples.Roomy(q.strikes, strike(7, 7)), samples.Roomy(q.rows, row(7, 7))
	for i, k := range q.s.Kinds {
		with.s.Kinds[i].Sizes = samples.Roomy(k.Sizes, to(7, 7))
	}
	with.s.Kinds = samples.Roomy(with.s.Kinds, api.SealKind{Mark: "g"})
	room = with
	room.s.Off, room.read = with.s.Off[:len(q.s.Off)+2], with.read[:len(q.read)+2]
	room.strikes, room.rows = with.strikes[:len(q.strikes)+2], with.rows[:len(q.rows)+2]
	room.s.Kinds = slices.Clone(with.s.Kinds[:len(q.s.Kinds)+2])
	for i, k := range with.s.Kinds {
		room.s.Kinds[i].Sizes = k.Sizes[:len(k.Sizes)+2]
	}
	return with, room
}

// TestMemory is for P2, R3 and R4: no argument is changed, nor what lies behind its end, and no result shares memory with one.
func TestMemory(t *testing.T) {
	d := dice{18}
	thrown := func() (q, room question) { return spare(tame(&d)) }
	samples.OwnMemory(t, 100, thrown, ask, func(result any) {
		switch l := result.(type) {
		case []int:
			samples.Wipe(l)
		case []api.Span:
			samples.Wipe(l)
		case []api.SealPair:
			samples.Wipe(l)
		}
	}, fmt.Sprint)
}

// TestOwnLists is for R4: the lists of a result share no memory with each other.
func TestOwnLists(t *testing.T) {
	surely, possibly, _ := seal.Kinds(many(6), []int{0, 0, 0})
	clear(surely[:cap(surely)])
	if !slices.Equal(possibly, []int{0, 1, 2, 3, 4, 5}) {
		t.Fatalf("possibly is changed to %v", possibly)
	}
}

// TestNil is for R3: a nil list and an empty one are answered alike.
func TestNil(t *testing.T) {
	same := func(bare, empty question) {
		t.Helper()
		if a, b := ask(bare), ask(empty); fmt.Sprint(a) != fmt.Sprint(b) {
			t.Errorf("nil is answered with %v, empty with %v", a, b)
		}
	}
	bare := question{s: statute(), mark: "broad"}
	empty := bare
	empty.read, empty.strikes, empty.rows = []int{}, []api.SealStrike{}, []api.SealRow{}
	same(bare, empty)
	bare.s = set(bare.s, func(s *api.SealStatute) { s.Kinds[1].Sizes = nil })
	empty.s = set(empty.s, func(s *api.SealStatute) { s.Kinds[1].Sizes = []api.Span{} })
	same(bare, empty)
	bare.s.Off, empty.s.Off = nil, []int{}
	same(bare, empty)
	bare.s.Kinds, empty.s.Kinds = nil, []api.SealKind{}
	same(bare, empty)
}

package seal_test

import (
	"slices"
	"testing"

	"walkmill/api"
	"walkmill/samples"
	"walkmill/seal"
)

// tries is how many statutes, lists of seals or books a test of what follows looks at.
const tries = 300

// TestKindsInAllTruths is for P7.2 and P7.11: surely in all truths, possibly in one, and whatever the sizes truly are.
func TestKindsInAllTruths(t *testing.T) {
	d := dice{1}
	seen := samples.Cases{}
	for range 3 * tries {
		s := d.statute(small)
		read := d.reading(s)
		var surely, can []int
		for kind, all := range count(s, read) {
			switch {
			case all.is == all.truths:
				surely, can = append(surely, kind), append(can, kind)
				seen["surely"]++
			case all.is > 0:
				can = append(can, kind)
				seen["possibly"]++
			case all.seals > 0:
				seen["no, but sealed"]++
			default:
				seen["no"]++
			}
		}
		kinds(t, s, read, surely, can)
	}
	seen.All(t, "surely", "possibly", "no, but sealed", "no")
}

// TestKindsInATruth is for P7.11: in a truth of a great statute the cloth is of what it surely is of, and of nothing that it is not possibly of; and what it surely is of it is sealed as of without a fine.
func TestKindsInATruth(t *testing.T) {
	d := dice{2}
	seen := samples.Cases{}
	for range 10 * tries {
		s := d.statute(great)
		read := d.reading(s)
		surely, can, e := seal.Kinds(s, read)
		if e != api.OK {
			t.Fatalf("Kinds(%v, %v) = %d", s, read, e)
		}
		x := d.truth(s, read)
		for kind := range s.Kinds {
			is := judge(s, kind, x).is
			if is && !slices.Contains(can, kind) || !is && slices.Contains(surely, kind) {
				t.Fatalf("Kinds(%v, %v) = %v, %v, but in %v it is %v of %d", s, read, surely, can, x, is, kind)
			}
			if is {
				seen["of a kind"]++
			}
		}
		for _, kind := range surely {
			fine(t, s, read, kind, to(0, 0), api.OK)
			seen["surely"]++
		}
	}
	seen.All(t, "of a kind", "surely")
}

// TestFineOfAllTruths is for P7.3 and P7.12: from the least to the greatest fine over all truths in which the cloth can be sealed, both of which are those of some truth.
func TestFineOfAllTruths(t *testing.T) {
	d := dice{3}
	seen := samples.Cases{}
	for range 3 * tries {
		s := d.statute(small)
		read := d.reading(s)
		for kind, all := range count(s, read) {
			want := api.OK
			if all.seals == 0 {
				want = api.ErrState
			}
			fine(t, s, read, kind, all.fine, want)
			switch {
			case all.seals == 0:
				seen["no"]++
			case all.seals < all.truths && all.fine.Low < all.fine.High:
				seen["in some truths"]++
			case all.fine.Low < all.fine.High:
				seen["in all truths"]++
			default:
				seen["one fine"]++
			}
		}
	}
	seen.All(t, "no", "in some truths", "in all truths", "one fine")
}

// TestBestOfAllTruths is for P7.4 and P7.12: the first one of the kinds, as of which the cloth can be sealed in all truths, whose greatest fine is least.
func TestBestOfAllTruths(t *testing.T) {
	d := dice{4}
	seen := samples.Cases{}
	for range 3 * tries {
		s := d.statute(small)
		read := d.reading(s)
		all := count(s, read)
		want, found := bestOf(all)
		if !found {
			samples.Two(t, "Best", 0, 0, api.ErrState)(seal.Best(s, read))
			seen["none"]++
			continue
		}
		samples.Two(t, "Best", want, all[want].fine.High, api.OK)(seal.Best(s, read))
		for kind, other := range all {
			switch {
			case kind != want && other.seals == other.truths && other.fine.High == all[want].fine.High:
				seen["several"]++
			case kind != want && other.seals == other.truths:
				seen["a dearer one"]++
			case other.seals > 0 && other.fine.High < all[want].fine.High:
				seen["a cheaper one, in some truths"]++
			}
		}
	}
	seen.All(t, "none", "several", "a dearer one", "a cheaper one, in some truths")
}

// TestFineInATruth is for P7.12: in a truth of a great statute the fine lies in Fine; as of the kind of Best the cloth can be sealed, for no more than its fine.
func TestFineInATruth(t *testing.T) {
	d := dice{5}
	seen := samples.Cases{}
	for range 10 * tries {
		s := d.statute(great)
		read := d.reading(s)
		x := d.truth(s, read)
		for kind := range s.Kinds {
			v := judge(s, kind, x)
			span, e := seal.Fine(s, read, kind)
			if v.seals && (e != api.OK || v.fine < span.Low || v.fine > span.High) {
				t.Fatalf("Fine(%v, %v, %d) = %v, %d, but it is %d in %v", s, read, kind, span, e, v.fine, x)
			}
			if v.seals && v.fine > 0 {
				seen["a fine"]++
			}
		}
		best, most, e := seal.Best(s, read)
		if e != api.OK {
			seen["no best"]++
			continue
		}
		if v := judge(s, best, x); !v.seals || v.fine > most {
			t.Fatalf("Best(%v, %v) = %d, %d, but in %v it is %v", s, read, best, most, x, v)
		}
		seen["best"]++
	}
	seen.All(t, "a fine", "no best", "best")
}

// TestBetterCord is for P7.12: with smaller Off no fine is wider, nor the fine of Best greater.
func TestBetterCord(t *testing.T) {
	d := dice{6}
	seen := samples.Cases{}
	for i := range 5 * tries {
		s := d.statute([]measure{small, great}[i%2])
		read := d.reading(s)
		better := set(s, func(s *api.SealStatute) {
			for size := range s.Off {
				s.Off[size] = d.From(0, s.Off[size])
			}
		})
		for kind := range s.Kinds {
			span, e := seal.Fine(s, read, kind)
			span2, e2 := seal.Fine(better, read, kind)
			if e2 == api.OK && (e != api.OK || !samples.Lies(span2, span)) {
				t.Fatalf("Fine(%v, %v, %d) = %v, %d; with %v %v", s, read, kind, span, e, better.Off, span2)
			}
			if e2 == api.OK && span2 != span {
				seen["narrower"]++
			}
		}
		_, most, e := seal.Best(s, read)
		_, most2, e2 := seal.Best(better, read)
		if e == api.OK && (e2 != api.OK || most2 > most) {
			t.Fatalf("Best(%v, %v) = %d; with %v %d, %d", s, read, most, better.Off, most2, e2)
		}
		if e == api.OK && most2 < most {
			seen["cheaper"]++
		}
	}
	seen.All(t, "narrower", "cheaper")
}

// TestLookOfAllFindings is for P7.5 and P7.13: the size that leaves the fewest kinds, of all that can be found of each one.
func TestLookOfAllFindings(t *testing.T) {
	d := dice{7}
	seen := samples.Cases{}
	for range 3 * tries {
		s := d.statute(small)
		read := d.reading(s)
		most, now := mostLeft(s, read)
		left := slices.Min(most[:])
		if left == now {
			samples.Two(t, "Look", 0, 0, api.ErrTwice)(seal.Look(s, read))
			seen["none"]++
			continue
		}
		want := slices.Index(most[:], left)
		samples.Two(t, "Look", want, left, api.OK)(seal.Look(s, read))
		seen[[]string{"long", "wide", "heavy"}[want]]++
		if slices.Contains(most[want+1:], left) {
			seen["several"]++
		}
		if left > 1 {
			seen["more than one left"]++
		}
	}
	seen.All(t, "none", "long", "wide", "heavy", "several", "more than one left")
}

// findings are, for all that can be found of a size of a great statute, how many kinds are possible by Kinds.
func findings(t *testing.T, s api.SealStatute, read []int, size int) []int {
	t.Helper()
	known := set(s, func(s *api.SealStatute) { s.Off[size] = 0 })
	var list []int
	for x := max(0, read[size]-s.Off[size]); x <= read[size]+s.Off[size]; x++ {
		again := slices.Clone(read)
		// A kind's span has nothing above MaxSealSize, so what is found there leaves none.
		left := 0
		if again[size] = x; x <= api.MaxSealSize {
			left = len(possibly(t, known, again))
		}
		list = append(list, left)
	}
	return list
}

// TestMeasuredAnew is for P7.13: whatever is found of the size of Look no more than left kinds are possible, and for something just so many; no size leaves fewer, and no one before it as few.
func TestMeasuredAnew(t *testing.T) {
	d := dice{8}
	seen := samples.Cases{}
	for range 3 * tries {
		s := d.statute(great)
		read := d.reading(s)
		var most [3]int
		for size := range most {
			most[size] = slices.Max(findings(t, s, read, size))
		}
		size, left, e := seal.Look(s, read)
		if now := len(possibly(t, s, read)); e == api.ErrTwice {
			if slices.Min(most[:]) < now {
				t.Fatalf("Look(%v, %v) = %d, but %v are left of %d", s, read, e, most, now)
			}
			seen["none"]++
			continue
		}
		if e != api.OK || left != slices.Min(most[:]) || size != slices.Index(most[:], left) {
			t.Fatalf("Look(%v, %v) = %d, %d, %d, but %v are left", s, read, size, left, e, most)
		}
		seen["some"]++
	}
	seen.All(t, "none", "some")
}

// TestAlikeOfAllIntegers is for P7.6: the two kinds that have an integer in common for each size, in order.
func TestAlikeOfAllIntegers(t *testing.T) {
	d := dice{9}
	seen := samples.Cases{}
	for i := range tries {
		s := d.statute([]measure{small, great}[i%2])
		var want []api.SealPair
		for a, one := range s.Kinds {
			for b := a + 1; b < len(s.Kinds); b++ {
				if alike(one, s.Kinds[b]) {
					want = append(want, api.SealPair{A: a, B: b})
					seen["alike"]++
				} else {
					seen["not alike"]++
				}
			}
		}
		samples.List(t, "Alike", want, api.OK)(seal.Alike(s))
	}
	seen.All(t, "alike", "not alike")
}

// TestTornOfAllMarks is for P7.7 and P7.14: a seal of a kind, however many letters of it cannot be read, can be of this kind, and of those whose marks can be torn so.
func TestTornOfAllMarks(t *testing.T) {
	d := dice{10}
	seen := samples.Cases{}
	for i := range tries / 10 {
		s := d.statute([]measure{small, great}[i%2])
		for i, k := range s.Kinds {
			for _, places := range samples.Sets(len(k.Mark)) {
				mark := samples.Tear(k.Mark, places...)
				want := tornOf(s, mark)
				torn(t, s, mark, want, api.OK)
				if !slices.Contains(want, i) {
					t.Fatalf("%s is not a torn %s", mark, k.Mark)
				}
				seen[[]string{"one", "several"}[min(1, len(want)-1)]]++
			}
		}
	}
	seen.All(t, "one", "several")
}

// TestTornOfAnyMarks is for P7.7: marks that are not those of a kind.
func TestTornOfAnyMarks(t *testing.T) {
	d := dice{11}
	seen := samples.Cases{}
	for range tries {
		s := d.statute(small)
		mark := d.mark(small.mark)
		mark = samples.Tear(mark, d.Some(d.From(0, len(mark)), len(mark))...)
		want, e := tornOf(s, mark), api.OK
		if len(want) == 0 {
			e = api.ErrNone
		}
		torn(t, s, mark, want, e)
		seen[[]string{"none", "some"}[min(1, len(want))]]++
	}
	seen.All(t, "none", "some")
}

// TestForgedOfAllSets is for P7.8: the first one of all sets of seals without which the others are genuine.
func TestForgedOfAllSets(t *testing.T) {
	d := dice{12}
	seen := samples.Cases{}
	for i := range tries {
		n := d.From(0, 7)
		if i%50 == 0 {
			n = api.MaxSealStrikes
		}
		l := d.strikes(n, d.Some(d.From(0, n), n))
		want := forgedOf(l)
		samples.List(t, "Forged", want, api.OK)(seal.Forged(l))
		switch len(want) {
		case 0:
			seen["none"]++
		case 1:
			seen["one"]++
		default:
			seen["several"]++
		}
	}
	seen.All(t, "none", "one", "several")
}

// TestOwnSeals is for P7.14: seals that were all struck by the aulnager are not forged; if some of their numbers were changed, no more than these must be.
func TestOwnSeals(t *testing.T) {
	d := dice{13}
	seen := samples.Cases{}
	for range tries {
		n := d.From(0, api.MaxSealStrikes)
		samples.List[int](t, "Forged of one's own", nil, api.OK)(seal.Forged(d.strikes(n, nil)))
		changed := d.Some(d.From(0, n/2), n)
		forged, e := seal.Forged(d.strikes(n, changed))
		if e != api.OK || len(forged) > len(changed) {
			t.Fatalf("Forged = %v, %d, but %v were changed", forged, e, changed)
		}
		if len(forged) < len(changed) {
			seen["fewer"]++
		} else if len(changed) > 0 {
			seen["as many"]++
		}
	}
	seen.All(t, "fewer", "as many")
}

// TestCordOfAllShifts is for P7.9: the shifts with which each row is right by some integer, as spans.
func TestCordOfAllShifts(t *testing.T) {
	d := dice{14}
	seen := samples.Cases{}
	for i := range tries / 5 {
		s, size := d.statute([]measure{small, great}[i%2]), d.From(0, 2)
		rows := d.rows(s, size, d.From(0, 4), d.From(-40, 40))
		d.slip(rows, d.Some(min(len(rows), d.From(0, 1)), len(rows)))
		want := cordOf(s, rows, size)
		samples.List(t, "Cord", want, api.OK)(seal.Cord(s, rows, size))
		switch {
		case len(want) == 0:
			seen["none"]++
		case want[0] == to(-api.MaxSealShift, api.MaxSealShift):
			seen["all"]++
		default:
			seen["some"]++
		}
	}
	seen.All(t, "none", "all", "some")
}

// TestWrongOfAllSets is for P7.10: the first one of all sets of rows without which there is a shift for the others, and the first such shift.
func TestWrongOfAllSets(t *testing.T) {
	d := dice{15}
	seen := samples.Cases{}
	for i := range tries / 5 {
		s, size := d.statute([]measure{small, great}[i%2]), d.From(0, 2)
		rows := d.rows(s, size, d.From(1, api.MaxSealRows), d.From(-40, 40))
		d.slip(rows, d.Some(d.From(0, len(rows)), len(rows)))
		want, shift := wrongOf(s, rows, size)
		if len(want) == 0 {
			wrong(t, "a book", nil, 0, api.ErrTwice)(seal.Wrong(s, rows, size))
			seen["none"]++
			continue
		}
		wrong(t, "a book", want, shift, api.OK)(seal.Wrong(s, rows, size))
		seen[[]string{"one", "several"}[min(1, len(want)-1)]]++
		if len(want) == len(rows) {
			seen["all"]++
		}
	}
	seen.All(t, "none", "one", "several", "all")
}

// TestTheBook is for P7.15: if a cord was wrong by a shift Cord has this shift; if some rows were written wrong, no more than these are named by Wrong.
func TestTheBook(t *testing.T) {
	d := dice{16}
	seen := samples.Cases{}
	for i := range 3 * tries {
		s, size := d.statute([]measure{small, great}[i%2]), d.From(0, 2)
		shift := d.From(-api.MaxSealShift, api.MaxSealShift)
		rows := d.rows(s, size, api.MaxSealRows, shift)
		if spans := cord(t, s, rows, size); len(spans) != 1 || shift < spans[0].Low || shift > spans[0].High {
			t.Fatalf("Cord(%v, %v, %d) = %v, but it was wrong by %d", s, rows, size, spans, shift)
		}
		wrong(t, "as it was read", nil, 0, api.ErrTwice)(seal.Wrong(s, rows, size))
		changed := d.Some(len(rows)/3, len(rows))
		d.slip(rows, changed)
		l, _, e := seal.Wrong(s, rows, size)
		if e != api.OK && e != api.ErrTwice || len(l) > len(changed) {
			t.Fatalf("Wrong(%v, %v, %d) = %v, %d, but %v were written wrong", s, rows, size, l, e, changed)
		}
		switch {
		case e == api.ErrTwice:
			seen["not seen"]++
		case len(l) == len(changed):
			seen["as many"]++
		default:
			seen["fewer"]++
		}
	}
	seen.All(t, "not seen", "as many", "fewer")
}

package teasel_test

import (
	"fmt"
	"iter"
	"slices"
	"testing"

	"walkmill/api"
	"walkmill/samples"
	"walkmill/teasel"
)

// to, frame, pass, turned and row write spans and what is made of them shortly.
func to(low, high int) api.Span { return api.Span{Low: low, High: high} }

func frame(wears api.Span, rows ...int) api.TeaselFrame {
	return api.TeaselFrame{Rows: rows, Wears: wears}
}

func pass(frame int) api.TeaselPass { return api.TeaselPass{Frame: frame} }

func turned(frame int) api.TeaselPass { return api.TeaselPass{Frame: frame, Turned: true} }

func row(frame, row int) api.TeaselRow { return api.TeaselRow{Frame: frame, Row: row} }

// of is a rack of some frames, and by a plan of some passes.
func of(frames ...api.TeaselFrame) []api.TeaselFrame { return frames }

func by(passes ...api.TeaselPass) []api.TeaselPass { return passes }

// rack is the rack of the chapter's examples.
func rack() []api.TeaselFrame { return of(frame(to(1, 2), 10, 8, 9), frame(to(0, 0), 6, 6, 12)) }

// single is a rack of one frame that wears by just so much.
func single(wears int, rows ...int) []api.TeaselFrame { return of(frame(to(wears, wears), rows...)) }

// many is a rack of so many frames with so many rows, that are all as sharp and wear as much as there may be.
func many(frames, rows int) []api.TeaselFrame {
	list := make([]api.TeaselFrame, frames)
	for i := range list {
		list[i] = frame(to(7, 10), slices.Repeat([]int{60}, rows)...)
	}
	return list
}

// twin is a rack that shares no memory with another one.
func twin(rack []api.TeaselFrame) []api.TeaselFrame {
	rack = slices.Clone(rack)
	for i := range rack {
		rack[i].Rows = slices.Clone(rack[i].Rows)
	}
	return rack
}

// set is a rack with a change.
func set(rack []api.TeaselFrame, change func(rack []api.TeaselFrame)) []api.TeaselFrame {
	rack = twin(rack)
	change(rack)
	return rack
}

// rows are all rows of a rack, ascending.
func rows(rack []api.TeaselFrame) []api.TeaselRow {
	var list []api.TeaselRow
	for i, f := range rack {
		for j := range f.Rows {
			list = append(list, row(i, j))
		}
	}
	return list
}

// truths yields by how much each frame can truly wear.
func truths(rack []api.TeaselFrame) iter.Seq[[]int] {
	var spans []api.Span
	for _, f := range rack {
		spans = append(spans, f.Wears)
	}
	return samples.Lists(spans...)
}

// known is a rack of which a truth is known.
func known(rack []api.TeaselFrame, x []int) []api.TeaselFrame {
	return set(rack, func(rack []api.TeaselFrame) {
		for i := range rack {
			rack[i].Wears = to(x[i], x[i])
		}
	})
}

// ends are the least and the greatest number over all truths.
func ends(rack []api.TeaselFrame, number func(x []int) int) api.Span {
	var all api.Span
	n := 0
	for x := range truths(rack) {
		all = samples.Wider(all, number(x), n)
		n++
	}
	return all
}

// used is how many passes of a plan a frame has.
func used(plan []api.TeaselPass, frame int) int {
	n := 0
	for _, p := range plan {
		if p.Frame == frame {
			n++
		}
	}
	return n
}

// sharp is how sharp a row is in a truth when its frame has had so many passes.
func sharp(rack []api.TeaselFrame, x []int, r api.TeaselRow, passes int) int {
	return max(0, rack[r.Frame].Rows[r.Row]-passes*x[r.Frame])
}

// nap is how high one stripe is after a plan in a truth, by how often the frame of each pass was used before it.
func nap(rack []api.TeaselFrame, x []int, plan []api.TeaselPass, stripe int) int {
	high := 0
	for i, p := range plan {
		r := row(p.Frame, stripe)
		if p.Turned {
			r.Row = len(rack[0].Rows) - 1 - stripe
		}
		high += sharp(rack, x, r, used(plan[:i], p.Frame))
	}
	return high
}

// naps is how high all stripes are.
func naps(rack []api.TeaselFrame, x []int, plan []api.TeaselPass) []int {
	var list []int
	for stripe := range rack[0].Rows {
		list = append(list, nap(rack, x, plan, stripe))
	}
	return list
}

// apart is the greatest difference between two stripes.
func apart(nap []int) int {
	most := 0
	for _, a := range nap {
		for _, b := range nap {
			most = max(most, a-b)
		}
	}
	return most
}

// farthest is how far stripes are apart after a plan, over all truths.
func farthest(rack []api.TeaselFrame, plan []api.TeaselPass) int {
	return ends(rack, func(x []int) int { return apart(naps(rack, x, plan)) }).High
}

// flip is a plan in which one pass is turned the other way.
func flip(plan []api.TeaselPass, number int) []api.TeaselPass {
	plan = slices.Clone(plan)
	plan[number].Turned = !plan[number].Turned
	return plan
}

// plans yields all plans of so many passes, the smaller lists first.
func plans(frames, passes int) iter.Seq[[]api.TeaselPass] {
	return func(yield func([]api.TeaselPass) bool) {
		for list := range samples.Lists(slices.Repeat([]api.Span{to(0, 2*frames-1)}, passes)...) {
			var plan []api.TeaselPass
			for _, x := range list {
				plan = append(plan, api.TeaselPass{Frame: x / 2, Turned: x%2 == 1})
			}
			if !yield(plan) {
				return
			}
		}
	}
}

// raises reports whether a plan raises all stripes enough and none too much, in all truths.
func raises(rack []api.TeaselFrame, plan []api.TeaselPass, need, harm int) bool {
	for x := range truths(rack) {
		if l := naps(rack, x, plan); slices.Min(l) < need || slices.Max(l) > harm {
			return false
		}
	}
	return true
}

// fewestOf is the first one of all plans that raise a cloth, and whether there is one.
func fewestOf(rack []api.TeaselFrame, need, harm int) (plan []api.TeaselPass, found bool) {
	for passes := range api.MaxTeaselTries + 1 {
		for plan := range plans(len(rack), passes) {
			if raises(rack, plan, need, harm) {
				return plan, true
			}
		}
	}
	return nil, false
}

// life is for how many passes a row is not blunt in a truth.
func life(rack []api.TeaselFrame, x []int, r api.TeaselRow, blunt int) int {
	passes := 0
	for passes < api.MaxTeaselLife && sharp(rack, x, r, passes) >= blunt {
		passes++
	}
	return passes
}

// lives is for how many passes all rows are not blunt in a truth.
func lives(rack []api.TeaselFrame, x []int, blunt int) []int {
	var list []int
	for _, r := range rows(rack) {
		list = append(list, life(rack, x, r, blunt))
	}
	return list
}

// apiece is for how many passes each frame has no row that is blunt, in a truth.
func apiece(rack []api.TeaselFrame, x []int, blunt int) []int {
	var list []int
	for frames := range slices.Chunk(lives(rack, x, blunt), len(rack[0].Rows)) {
		list = append(list, slices.Min(frames))
	}
	return list
}

// longest tries all ways to take so many different ones of what is left, again and again, and returns how often it can be done at most.
func longest(left []int, many int) int {
	choices := slices.DeleteFunc(samples.Sets(len(left)), func(set []int) bool { return len(set) != many })
	done := map[string]int{}
	var most func(left []int) int
	most = func(left []int) int {
		slices.Sort(left) // which one has so much left makes no difference
		key := fmt.Sprint(left)
		if n, ok := done[key]; ok {
			return n
		}
		best := 0
		for _, set := range choices {
			next := slices.Clone(left)
			for _, i := range set {
				next[i]--
			}
			if slices.Min(next) >= 0 {
				best = max(best, 1+most(next))
			}
		}
		done[key] = best
		return best
	}
	return most(slices.Clone(left))
}

// room reports whether rows that last so long can together fill so many passes, each of them once in a pass.
func room(lives []int, rows, passes int) bool {
	places := 0
	for _, life := range lives {
		places += min(life, passes)
	}
	return places >= rows*passes
}

// canBe reports whether stripes have a nap after a plan in some truth.
func canBe(rack []api.TeaselFrame, plan []api.TeaselPass, nap []int) bool {
	for x := range truths(rack) {
		if slices.Equal(naps(rack, x, plan), nap) {
			return true
		}
	}
	return false
}

// blunter is a rack with a row that is just so sharp at first.
func blunter(rack []api.TeaselFrame, r api.TeaselRow, sharp int) []api.TeaselFrame {
	return set(rack, func(rack []api.TeaselFrame) { rack[r.Frame].Rows[r.Row] = sharp })
}

// guiltyOf are the rows that, if one alone was less sharp, let stripes have a nap in some truth.
func guiltyOf(rack []api.TeaselFrame, plan []api.TeaselPass, nap []int) []api.TeaselRow {
	var list []api.TeaselRow
	for _, r := range rows(rack) {
		for less := range rack[r.Frame].Rows[r.Row] {
			if canBe(blunter(rack, r, less), plan, nap) {
				list = append(list, r)
				break
			}
		}
	}
	return list
}

// count is how many of some conditions hold.
func count(conditions ...bool) int {
	n := 0
	for _, holds := range conditions {
		if holds {
			n++
		}
	}
	return n
}

// dice make what is tried here.
type dice struct{ samples.Dice }

// measure says which racks are made: how many frames and rows they have, how sharp these are, and by how much they wear, and by how much it is not known.
type measure struct{ frames, rows, sharp, wears, doubt int }

// small racks have few truths and plans, great ones are of any valid size.
var (
	small = measure{frames: 2, rows: 3, sharp: 8, wears: 3, doubt: 1}
	great = measure{frames: api.MaxTeaselFrames, rows: api.MaxTeaselRows, sharp: api.MaxTeaselSharp, wears: api.MaxTeaselWears, doubt: api.MaxTeaselDoubt}
)

// rack makes a rack.
func (d *dice) rack(z measure) []api.TeaselFrame {
	rows := d.From(1, z.rows)
	var list []api.TeaselFrame
	for range d.From(1, z.frames) {
		f := api.TeaselFrame{Wears: d.Span(0, z.wears, z.doubt)}
		for range rows {
			f.Rows = append(f.Rows, d.From(0, z.sharp))
		}
		list = append(list, f)
	}
	return list
}

// plan makes a plan of up to so many passes.
func (d *dice) plan(rack []api.TeaselFrame, most int) []api.TeaselPass {
	var plan []api.TeaselPass
	for range d.From(0, most) {
		plan = append(plan, api.TeaselPass{Frame: d.From(0, len(rack)-1), Turned: d.From(0, 1) == 1})
	}
	return plan
}

// truth makes a truth of a rack.
func (d *dice) truth(rack []api.TeaselFrame) []int {
	var x []int
	for _, f := range rack {
		x = append(x, d.From(f.Wears.Low, f.Wears.High))
	}
	return x
}

// raise, left, fewest and total ask what must not have an error.
func raise(t *testing.T, rack []api.TeaselFrame, plan []api.TeaselPass) []api.Span {
	t.Helper()
	l, e := teasel.Raise(rack, plan)
	if e != api.OK {
		t.Fatalf("Raise(%v, %v) = %v, %d", rack, plan, l, e)
	}
	return l
}

func left(t *testing.T, rack []api.TeaselFrame, plan []api.TeaselPass) [][]api.Span {
	t.Helper()
	l, e := teasel.Left(rack, plan)
	if e != api.OK {
		t.Fatalf("Left(%v, %v) = %v, %d", rack, plan, l, e)
	}
	return l
}

func last(t *testing.T, rack []api.TeaselFrame, blunt int) [][]api.Span {
	t.Helper()
	l, e := teasel.Lives(rack, blunt)
	if e != api.OK {
		t.Fatalf("Lives(%v, %d) = %v, %d", rack, blunt, l, e)
	}
	return l
}

func total(t *testing.T, rack []api.TeaselFrame, blunt int) api.Span {
	t.Helper()
	s, e := teasel.Total(rack, blunt)
	if e != api.OK {
		t.Fatalf("Total(%v, %d) = %v, %d", rack, blunt, s, e)
	}
	return s
}

package turn_test

import (
	"iter"
	"slices"
	"testing"

	"walkmill/api"
	"walkmill/samples"
	"walkmill/turn"
)

// to, cloth and day write spans, cloths and days shortly.
func to(low, high int) api.Span { return api.Span{Low: low, High: high} }

func cloth(weaver, comes, low, high int) api.TurnCloth {
	return api.TurnCloth{Weaver: weaver, Comes: comes, Hours: to(low, high)}
}

func day(ranks []int, cloths ...api.TurnCloth) api.TurnDay {
	return api.TurnDay{Cloths: cloths, Ranks: ranks}
}

// example is the day of the chapter's examples.
func example() api.TurnDay {
	return day([]int{1, 0}, cloth(0, 0, 4, 6), cloth(0, 0, 3, 3), cloth(1, 0, 5, 8), cloth(1, 2, 2, 4))
}

// one is a day of one weaver, whose cloths all come at the hour 0 and stay for so many hours.
func one(hours ...int) api.TurnDay {
	d := day([]int{0})
	for _, long := range hours {
		d.Cloths = append(d.Cloths, cloth(0, 0, long, long))
	}
	return d
}

// crowd is a day of so many cloths of one weaver.
func crowd(cloths int) api.TurnDay { return one(slices.Repeat([]int{1}, cloths)...) }

// twin is a day that shares no memory with another one.
func twin(d api.TurnDay) api.TurnDay {
	return day(slices.Clone(d.Ranks), slices.Clone(d.Cloths)...)
}

// set is a day with a change.
func set(d api.TurnDay, change func(d *api.TurnDay)) api.TurnDay {
	d = twin(d)
	change(&d)
	return d
}

// custom is the custom's order as the chapter says it: hour by hour, in each one turn by turn, in each turn weaver by weaver.
func custom(d api.TurnDay) []int {
	var order []int
	for hour := range api.MaxTurnComes + 1 {
		for turn := range len(d.Cloths) {
			for rank := range len(d.Ranks) {
				weaver := slices.Index(d.Ranks, rank)
				seen := 0
				for i, c := range d.Cloths {
					if c.Weaver != weaver || c.Comes != hour {
						continue
					}
					if seen == turn {
						order = append(order, i)
					}
					seen++
				}
			}
		}
	}
	return order
}

// course is what becomes of cloths in a truth, by their numbers: when they are taken, and are done; -1 if they do not come.
type course struct{ taken, done []int }

// run goes through the hours as the chapter says it: in each one the first cloths that wait are taken by the stocks that are empty.
func run(d api.TurnDay, order []int, stocks int, stays []int) course {
	way := course{slices.Repeat([]int{-1}, len(d.Cloths)), slices.Repeat([]int{-1}, len(d.Cloths))}
	var busy []int // the cloths in the stocks
	for hour := 0; len(order) > 0; hour++ {
		busy = slices.DeleteFunc(busy, func(i int) bool { return way.done[i] <= hour })
		for len(order) > 0 && len(busy) < stocks && d.Cloths[order[0]].Comes <= hour {
			i := order[0]
			order, busy = order[1:], append(busy, i)
			way.taken[i], way.done[i] = hour, hour+stays[i]
		}
	}
	return way
}

// truths yields how long the cloths stay, in all truths.
func truths(cloths []api.TurnCloth) iter.Seq[[]int] {
	return func(yield func([]int) bool) {
		if len(cloths) == 0 {
			yield(nil)
			return
		}
		last := cloths[len(cloths)-1].Hours
		for list := range truths(cloths[:len(cloths)-1]) {
			for hours := last.Low; hours <= last.High; hours++ {
				if !yield(append(slices.Clone(list), hours)) {
					return
				}
			}
		}
	}
}

// tally is what the count of all truths says of a day: when cloths are taken, their greatest waits, and when all are done.
type tally struct {
	truths int
	starts []api.Span
	waits  []int
	ends   api.Span
}

// count counts all truths of a day whose cloths are taken in an order.
func count(d api.TurnDay, order []int, stocks int) tally {
	n := tally{starts: make([]api.Span, len(d.Cloths)), waits: make([]int, len(d.Cloths))}
	for stays := range truths(d.Cloths) {
		way := run(d, order, stocks, stays)
		for _, i := range order {
			n.starts[i] = samples.Wider(n.starts[i], way.taken[i], n.truths)
			n.waits[i] = max(n.waits[i], way.taken[i]-d.Cloths[i].Comes)
		}
		n.ends = samples.Wider(n.ends, max(0, slices.Max(append(way.done, 0))), n.truths)
		n.truths++
	}
	return n
}

// waits reports whether in some truth a cloth waits for more than limit hours.
func waits(d api.TurnDay, order []int, stocks, limit int) bool {
	for stays := range truths(d.Cloths) {
		way := run(d, order, stocks, stays)
		for _, i := range order {
			if way.taken[i]-d.Cloths[i].Comes > limit {
				return true
			}
		}
	}
	return false
}

// only and without are the numbers of a list that are, or are not, in a set.
func only(list, set []int) []int {
	return slices.DeleteFunc(slices.Clone(list), func(i int) bool { return !slices.Contains(set, i) })
}

func without(list, set []int) []int {
	return slices.DeleteFunc(slices.Clone(list), func(i int) bool { return slices.Contains(set, i) })
}

// dice make what is tried here.
type dice struct{ samples.Dice }

// sizes say which days are made: how many cloths and weavers there are, when cloths come and how long they stay at most, and by how much it is not known.
type sizes struct{ cloths, weavers, comes, stay, doubt int }

// small days have few truths, great ones are of any valid size.
var (
	small = sizes{5, 3, 4, 6, 2}
	great = sizes{api.MaxTurnCloths, api.MaxTurnWeavers, api.MaxTurnComes, api.MaxTurnStay, api.MaxTurnStay}
)

// day makes a day; on many of them more cloths come at one hour.
func (d *dice) day(z sizes) api.TurnDay {
	weavers := d.From(1, z.weavers)
	list := day(d.Mixed(weavers))
	latest := d.From(0, z.comes)
	for range d.From(0, z.cloths) {
		low := d.From(1, z.stay)
		list.Cloths = append(list.Cloths, cloth(d.From(0, weavers-1), d.From(0, latest), low, min(z.stay, low+d.From(0, z.doubt))))
	}
	return list
}

// order, starts, ends and fewest ask what must not have an error.
func order(t *testing.T, d api.TurnDay) []int {
	t.Helper()
	list, e := turn.Order(d)
	if e != api.OK {
		t.Fatalf("%v: Order = %d", d, e)
	}
	return list
}

func starts(t *testing.T, d api.TurnDay, stocks int) []api.Span {
	t.Helper()
	list, e := turn.Starts(d, stocks)
	if e != api.OK || len(list) != len(d.Cloths) {
		t.Fatalf("%v: Starts(%d) = %v, %d", d, stocks, list, e)
	}
	return list
}

func ends(t *testing.T, d api.TurnDay, stocks int) api.Span {
	t.Helper()
	s, e := turn.Ends(d, stocks)
	if e != api.OK {
		t.Fatalf("%v: Ends(%d) = %d", d, stocks, e)
	}
	return s
}

func fewest(t *testing.T, d api.TurnDay, limit int) int {
	t.Helper()
	stocks, e := turn.Fewest(d, limit)
	if e != api.OK || stocks < 1 {
		t.Fatalf("%v: Fewest(%d) = %d, %d", d, limit, stocks, e)
	}
	return stocks
}

// longest is the longest wait of all; 0 if there are no cloths.
func longest(t *testing.T, d api.TurnDay, stocks int) int {
	t.Helper()
	_, hours, e := turn.Waits(d, stocks)
	if e != api.OK && (e != api.ErrNone || len(d.Cloths) > 0) {
		t.Fatalf("%v: Waits(%d) = %d", d, stocks, e)
	}
	return hours
}

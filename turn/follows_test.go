package turn_test

import (
	"slices"
	"testing"

	"walkmill/api"
	"walkmill/samples"
	"walkmill/turn"
)

// trials is how many days a test of what follows looks at.
const trials = 300

// TestOrderOfGreatDays is for P4.2 and P4.16: Order is as the chapter says it.
func TestOrderOfGreatDays(t *testing.T) {
	d := dice{1}
	sooner, turns := 0, 0
	for range 10 * trials {
		x := d.day(great)
		l := order(t, x)
		if !slices.Equal(l, custom(x)) {
			t.Fatalf("%v: Order = %v, not %v", x, l, custom(x))
		}
		if sorted := slices.Sorted(slices.Values(l)); !slices.Equal(sorted, samples.UpTo(len(x.Cloths))) {
			t.Fatalf("%v: Order = %v", x, l)
		}
		for i, a := range l {
			for _, b := range l[i+1:] {
				one, other := x.Cloths[a], x.Cloths[b]
				if one.Comes > other.Comes || one.Comes == other.Comes && one.Weaver == other.Weaver && a > b {
					t.Fatalf("%v: Order = %v, %d before %d", x, l, a, b)
				}
				if one.Comes < other.Comes && a > b {
					sooner++
				}
				if one.Comes == other.Comes && x.Ranks[one.Weaver] > x.Ranks[other.Weaver] {
					turns++
				}
			}
		}
	}
	if sooner == 0 || turns == 0 {
		t.Errorf("not all cases are tried: %d, %d", sooner, turns)
	}
}

// longestOf is the cloth with the longest wait, the first one of several in an order, and how long it is.
func longestOf(order, waits []int) (cloth, hours int) {
	hours = -1
	for _, i := range order {
		if waits[i] > hours {
			cloth, hours = i, waits[i]
		}
	}
	return cloth, hours
}

// TestAllTruths is for P4.12 (and for P4.3 to P4.5): Starts, Waits and Ends are as the count of all truths says.
func TestAllTruths(t *testing.T) {
	d := dice{2}
	wait, none, many := 0, 0, 0
	for range trials {
		x, stocks := d.day(small), d.From(1, 3)
		l := custom(x)
		n := count(x, l, stocks)
		if s := starts(t, x, stocks); !slices.Equal(s, n.starts) {
			t.Fatalf("%v: Starts(%d) = %v, not %v", x, stocks, s, n.starts)
		}
		if s := ends(t, x, stocks); s != n.ends {
			t.Fatalf("%v: Ends(%d) = %v, not %v", x, stocks, s, n.ends)
		}
		cloth, hours, e := turn.Waits(x, stocks)
		if len(l) == 0 {
			if cloth != 0 || hours != 0 || e != api.ErrNone {
				t.Fatalf("%v: Waits(%d) = %d, %d, %d", x, stocks, cloth, hours, e)
			}
			none++
			continue
		}
		if first, most := longestOf(l, n.waits); cloth != first || hours != most || e != api.OK {
			t.Fatalf("%v: Waits(%d) = %d, %d, %d, not %d, %d", x, stocks, cloth, hours, e, first, most)
		}
		if hours > 0 {
			wait++
		}
		if n.truths > 1 && n.ends.Low < n.ends.High {
			many++
		}
	}
	if wait == 0 || none == 0 || many == 0 {
		t.Errorf("not all cases are tried: %d, %d, %d", wait, none, many)
	}
}

// TestInATruth is for P4.12: in a truth of a great day all cloths are taken and done as Starts and Ends say, and none before the one before.
func TestInATruth(t *testing.T) {
	d := dice{3}
	for range 2 * trials {
		x, stocks := d.day(great), d.From(1, api.MaxTurnStocks)
		var stays []int
		for _, c := range x.Cloths {
			stays = append(stays, d.From(c.Hours.Low, c.Hours.High))
		}
		l, s, longest := order(t, x), starts(t, x, stocks), longest(t, x, stocks)
		way := run(x, l, stocks, stays)
		before := to(0, 0)
		for _, i := range l {
			if way.taken[i] < s[i].Low || way.taken[i] > s[i].High || way.taken[i]-x.Cloths[i].Comes > longest {
				t.Fatalf("%v: with %v %d is taken at %d, Starts(%d) = %v", x, stays, i, way.taken[i], stocks, s)
			}
			if s[i].Low < before.Low || s[i].High < before.High {
				t.Fatalf("%v: Starts(%d) = %v, %d before the one before", x, stocks, s, i)
			}
			before = s[i]
		}
		last := slices.Max(append(way.done, 0))
		if s := ends(t, x, stocks); last < s.Low || last > s.High {
			t.Fatalf("%v: with %v all are done at %d, Ends(%d) = %v", x, stays, last, stocks, s)
		}
	}
}

// TestFewestOfAllTruths is for P4.6 and P4.13: with the stocks of Fewest nobody waits for longer, with one fewer somebody can.
func TestFewestOfAllTruths(t *testing.T) {
	d := dice{4}
	tried := map[int]bool{}
	for range trials {
		x, limit := d.day(small), d.From(0, 10)
		l := custom(x)
		stocks := fewest(t, x, limit)
		if waits(x, l, stocks, limit) || stocks > 1 && !waits(x, l, stocks-1, limit) {
			t.Fatalf("%v: Fewest(%d) = %d", x, limit, stocks)
		}
		tried[stocks] = true
	}
	for stocks := 1; stocks <= small.cloths; stocks++ {
		if !tried[stocks] {
			t.Errorf("the answer %d is not tried", stocks)
		}
	}
}

// TestFewestOfGreatDays is for P4.13: so it is of great days, where somebody waits if Waits says it.
func TestFewestOfGreatDays(t *testing.T) {
	d := dice{5}
	more := 0
	for range trials {
		x, limit := d.day(great), d.From(0, 40)
		stocks := fewest(t, x, limit)
		if stocks > api.MaxTurnStocks {
			more++
			stocks = api.MaxTurnStocks + 1
		} else if hours := longest(t, x, stocks); hours > limit {
			t.Fatalf("%v: Fewest(%d) = %d, but one waits for %d", x, limit, stocks, hours)
		}
		if stocks > 1 && longest(t, x, stocks-1) <= limit {
			t.Fatalf("%v: Fewest(%d) = %d, and one fewer suffices", x, limit, stocks)
		}
	}
	if more == 0 {
		t.Error("no day needs more than MaxTurnStocks")
	}
}

// shorter is a day on which some cloths stay less long.
func (d *dice) shorter(x api.TurnDay) api.TurnDay {
	return set(x, func(x *api.TurnDay) {
		for i := range x.Cloths {
			s := &x.Cloths[i].Hours
			s.High = d.From(s.Low, s.High)
			s.Low = d.From(1, s.Low)
		}
	})
}

// TestNobodyWaitsLonger is for P4.13: with more stocks, with shorter stays, or without the last cloth of the order nobody waits longer.
func TestNobodyWaitsLonger(t *testing.T) {
	d := dice{6}
	sooner := 0
	for range 2 * trials {
		x, stocks := d.day(great), d.From(1, api.MaxTurnStocks-1)
		s := starts(t, x, stocks)
		less := d.shorter(x)
		for _, other := range [][]api.Span{starts(t, x, stocks+1), starts(t, less, stocks)} {
			for i := range s {
				if other[i].High > s[i].High || other[i].Low > s[i].Low {
					t.Fatalf("%v: with %d stocks %v; with one more, or shorter stays, %v", x, stocks, s, other)
				}
				if other[i].High < s[i].High {
					sooner++
				}
			}
		}
		if l := order(t, x); len(l) > 0 {
			last := l[len(l)-1]
			left := set(x, func(x *api.TurnDay) { x.Cloths = slices.Delete(x.Cloths, last, last+1) })
			if other := starts(t, left, stocks); !slices.Equal(other, slices.Delete(slices.Clone(s), last, last+1)) {
				t.Fatalf("%v: with %d stocks %v, without %d %v", x, stocks, s, last, other)
			}
		}
	}
	if sooner == 0 {
		t.Error("nobody waits less")
	}
}

// TestProofOfAllSets is for P4.7 and P4.14: Proof is the first one of all sets of cloths of which one can wait for longer; without any one of them none can.
func TestProofOfAllSets(t *testing.T) {
	d := dice{7}
	tried := map[int]bool{}
	for range trials {
		x, stocks, limit := d.day(small), d.From(1, 3), d.From(0, 10)
		l := custom(x)
		var want []int
		none := api.ErrTwice
		for _, set := range samples.Sets(len(l)) {
			if waits(x, only(l, set), stocks, limit) {
				want, none = set, api.OK
				break
			}
		}
		proof, e := turn.Proof(x, stocks, limit)
		if !slices.Equal(proof, want) || e != none {
			t.Fatalf("%v: Proof(%d, %d) = %v, %d, not %v, %d", x, stocks, limit, proof, e, want, none)
		}
		for _, i := range proof {
			if waits(x, without(only(l, proof), []int{i}), stocks, limit) {
				t.Fatalf("%v: Proof(%d, %d) = %v, also without %d", x, stocks, limit, proof, i)
			}
		}
		if (e == api.OK) != waits(x, l, stocks, limit) {
			t.Fatalf("%v: Proof(%d, %d) = %v, %d", x, stocks, limit, proof, e)
		}
		tried[len(proof)] = true
	}
	for _, n := range []int{0, 2, 3, 4, 5} {
		if !tried[n] {
			t.Errorf("no proof of %d cloths is tried", n)
		}
	}
}

// TestProofOfGreatDays is for P4.7 and P4.14: so it is of great days, on which all cloths stay as long as they can.
func TestProofOfGreatDays(t *testing.T) {
	d := dice{8}
	tried := map[int]bool{}
	for range trials / 3 {
		x, stocks, limit := d.day(great), d.From(1, api.MaxTurnStocks), d.From(0, 40)
		for i := range x.Cloths {
			x.Cloths[i].Comes /= 8 // many at one hour
			x.Cloths[i].Hours.Low = x.Cloths[i].Hours.High
		}
		l := custom(x)
		proof, e := turn.Proof(x, stocks, limit)
		for _, set := range samples.Sets(len(l)) {
			if waits(x, only(l, set), stocks, limit) {
				if !slices.Equal(proof, set) || e != api.OK {
					t.Fatalf("%v: Proof(%d, %d) = %v, %d, not %v", x, stocks, limit, proof, e, set)
				}
				break
			}
			if slices.Equal(proof, set) && e == api.OK {
				t.Fatalf("%v: Proof(%d, %d) = %v, of which none waits", x, stocks, limit, proof)
			}
		}
		tried[len(proof)] = true
	}
	for _, n := range []int{0, 2, 6} {
		if !tried[n] {
			t.Errorf("no proof of %d cloths is tried", n)
		}
	}
}

// TestJumpedOfAllOrders is for P4.8 and P4.15: Jumped is the first one of all sets of cloths without which an order is the custom's, whatever it is.
func TestJumpedOfAllOrders(t *testing.T) {
	d := dice{9}
	for cloths := range small.cloths + 1 {
		x := d.day(sizes{0, small.weavers, 0, 1, 0})
		for range cloths {
			x.Cloths = append(x.Cloths, cloth(d.From(0, len(x.Ranks)-1), d.From(0, 1), 1, 1))
		}
		l := custom(x)
		for _, seen := range samples.Orders(cloths) {
			all := samples.Sets(cloths)
			want := slices.IndexFunc(all, func(set []int) bool { return slices.Equal(without(l, set), without(seen, set)) })
			if jumped, e := turn.Jumped(x, seen); !slices.Equal(jumped, all[want]) || e != api.OK {
				t.Fatalf("%v: Jumped of %v = %v, %d, not %v", x, seen, jumped, e, all[want])
			}
		}
	}
}

// TestJumpedOfGreatDays is for P4.15: of cloths that are put into other places Jumped names no more, and without those that it names all others are in the custom's order.
func TestJumpedOfGreatDays(t *testing.T) {
	d := dice{10}
	tried := map[int]bool{}
	for range 2 * trials {
		x := d.day(great)
		l := custom(x)
		seen, moved := slices.Clone(l), map[int]bool{}
		for range d.From(0, len(l)) {
			from, place := d.From(0, len(l)-1), d.From(0, len(l)-1)
			i := seen[from]
			seen, moved[i] = slices.Insert(slices.Delete(seen, from, from+1), place, i), true
		}
		jumped, e := turn.Jumped(x, seen)
		if e != api.OK || len(jumped) > len(moved) || !slices.IsSorted(jumped) || !slices.Equal(without(l, jumped), without(seen, jumped)) {
			t.Fatalf("%v: Jumped of %v = %v, %d, and %v were moved", x, seen, jumped, e, moved)
		}
		if none, e := turn.Jumped(x, l); len(none) > 0 || e != api.OK {
			t.Fatalf("%v: Jumped of %v = %v, %d", x, l, none, e)
		}
		tried[len(jumped)] = true
	}
	for n := range 5 {
		if !tried[n] {
			t.Errorf("no order in which %d jumped is tried", n)
		}
	}
}

// join is a day in which the cloths a and b are one, which stands where a stood, with the numbers that its cloths had.
func join(d api.TurnDay, a, b int) (joined api.TurnDay, numbers []int) {
	joined, numbers = twin(d), samples.UpTo(len(d.Cloths))
	joined.Cloths[a].Hours.Low += d.Cloths[b].Hours.Low
	joined.Cloths[a].Hours.High += d.Cloths[b].Hours.High
	joined.Cloths = slices.Delete(joined.Cloths, b, b+1)
	return joined, slices.Delete(numbers, b, b+1)
}

// TestJoinedOfAllTruths is for P4.9: it is as the count of all truths says, with the two cloths and with the one.
func TestJoinedOfAllTruths(t *testing.T) {
	d := dice{11}
	grows, none, cannot, behind := 0, 0, 0, 0
	for range 3 * trials {
		x, stocks := d.day(sizes{5, 3, 1, 5, 2}), d.From(1, 3)
		a, b := d.From(-1, len(x.Cloths)), d.From(-1, len(x.Cloths))
		cloth, more, e := turn.Joined(x, stocks, a, b)
		valid := min(a, b) >= 0 && max(a, b) < len(x.Cloths) && a != b
		if !valid || x.Cloths[a].Weaver != x.Cloths[b].Weaver || x.Cloths[a].Comes != x.Cloths[b].Comes {
			if cloth != 0 || more != 0 || e != api.ErrArg {
				t.Fatalf("%v: Joined(%d, %d, %d) = %d, %d, %d", x, stocks, a, b, cloth, more, e)
			}
			cannot++
			continue
		}
		before := count(x, custom(x), stocks).waits
		joined, numbers := join(x, a, b)
		first, most, error := 0, 0, api.ErrNone
		for i, after := range count(joined, custom(joined), stocks).waits {
			n := numbers[i]
			if grown := after - before[n]; x.Cloths[n].Weaver != x.Cloths[a].Weaver && grown > most {
				first, most, error = n, grown, api.OK
			}
		}
		if cloth != first || more != most || e != error {
			t.Fatalf("%v: Joined(%d, %d, %d) = %d, %d, %d, not %d, %d, %d", x, stocks, a, b, cloth, more, e, first, most, error)
		}
		switch {
		case e != api.OK:
			none++
		case cloth > b:
			behind++
		default:
			grows++
		}
	}
	if grows == 0 || none == 0 || cannot == 0 || behind == 0 {
		t.Errorf("not all cases are tried: %d, %d, %d, %d", grows, none, cannot, behind)
	}
}

// TestSlackOfAllTruths is for P4.10: with the longer stay nobody waits for longer in any truth, with one hour more somebody can.
func TestSlackOfAllTruths(t *testing.T) {
	d := dice{12}
	some, most, not := 0, 0, 0
	for range trials / 2 {
		x, stocks, limit := d.day(sizes{4, 3, 8, 5, 1}), d.From(1, 3), d.From(0, 12)
		if len(x.Cloths) == 0 {
			continue
		}
		l, i := custom(x), d.From(0, len(x.Cloths)-1)
		more, e := turn.Slack(x, stocks, limit, i)
		if waits(x, l, stocks, limit) {
			if more != 0 || e != api.ErrState {
				t.Fatalf("%v: Slack(%d, %d, %d) = %d, %d, and one can wait for longer already", x, stocks, limit, i, more, e)
			}
			not++
			continue
		}
		longer := set(x, func(x *api.TurnDay) { x.Cloths[i].Hours.High += more })
		if e != api.OK || more < 0 || more > api.MaxTurnLimit || waits(longer, l, stocks, limit) {
			t.Fatalf("%v: Slack(%d, %d, %d) = %d, %d", x, stocks, limit, i, more, e)
		}
		longer.Cloths[i].Hours.High++
		if more < api.MaxTurnLimit && !waits(longer, l, stocks, limit) {
			t.Fatalf("%v: Slack(%d, %d, %d) = %d, and one hour more is not too long", x, stocks, limit, i, more)
		}
		if more == api.MaxTurnLimit {
			most++
		} else {
			some++
		}
	}
	if some == 0 || most == 0 || not == 0 {
		t.Errorf("not all cases are tried: %d, %d, %d", some, most, not)
	}
}

// TestSlackOfGreatDays is for P4.10: so it is of great days, if all cloths stay as long as they can.
func TestSlackOfGreatDays(t *testing.T) {
	d := dice{13}
	some, most, not := 0, 0, 0
	for range trials {
		x, stocks, limit := d.day(great), d.From(1, api.MaxTurnStocks), d.From(0, 80)
		x.Cloths = append(x.Cloths, cloth(0, 0, 1, 1))[:max(1, len(x.Cloths))]
		for i := range x.Cloths {
			x.Cloths[i].Hours.Low = x.Cloths[i].Hours.High
		}
		l, i := custom(x), d.From(0, len(x.Cloths)-1)
		more, e := turn.Slack(x, stocks, limit, i)
		if e == api.ErrState && waits(x, l, stocks, limit) {
			not++
			continue
		}
		stays := func(more int) api.TurnDay {
			return set(x, func(x *api.TurnDay) {
				x.Cloths[i].Hours.High += more
				x.Cloths[i].Hours.Low = x.Cloths[i].Hours.High
			})
		}
		if e != api.OK || waits(stays(more), l, stocks, limit) || more < api.MaxTurnLimit && !waits(stays(more+1), l, stocks, limit) {
			t.Fatalf("%v: Slack(%d, %d, %d) = %d, %d", x, stocks, limit, i, more, e)
		}
		if more == api.MaxTurnLimit {
			most++
		} else {
			some++
		}
	}
	if some == 0 || most == 0 || not == 0 {
		t.Errorf("not all cases are tried: %d, %d, %d", some, most, not)
	}
}

// TestAllRanks is for P4.11: Ranks are the first ones of all by which nobody waits for longer in any truth.
func TestAllRanks(t *testing.T) {
	d := dice{14}
	first, later, none := 0, 0, 0
	for range trials {
		x, stocks, limit := d.day(sizes{5, 4, 1, 6, 1}), d.From(1, 2), d.From(0, 16)
		var want []int
		error := api.ErrState
		for _, ranks := range samples.Orders(len(x.Ranks)) {
			other := day(ranks, x.Cloths...)
			if !waits(other, custom(other), stocks, limit) {
				want, error = ranks, api.OK
				break
			}
		}
		ranks, e := turn.Ranks(x, stocks, limit)
		if !slices.Equal(ranks, want) || e != error {
			t.Fatalf("%v: Ranks(%d, %d) = %v, %d, not %v, %d", x, stocks, limit, ranks, e, want, error)
		}
		switch {
		case e != api.OK:
			none++
		case slices.IsSorted(ranks):
			first++
		default:
			later++
		}
	}
	if first == 0 || later == 0 || none == 0 {
		t.Errorf("not all cases are tried: %d, %d, %d", first, later, none)
	}
}

package theft_test

import (
	"fmt"
	"slices"
	"strings"
	"testing"

	"walkmill/api"
	"walkmill/samples"
	"walkmill/theft"
)

// tries is how many thefts a test of what follows looks at.
const tries = 200

// mixed makes small thefts, and now and then a great one.
func (d *dice) mixed() loot {
	if d.From(0, 9) == 0 {
		return d.loot(great)
	}
	return d.loot(small)
}

// spoil makes a piece longer than it truly is.
func (d *dice) spoil(l loot) {
	p := &l.pieces[d.From(0, len(l.pieces)-1)]
	p.Long = min(api.MaxTheftLong, p.Long+d.From(1, 2*p.Long))
}

// TestLeastOfAllCuts is for P9.2 and P9.11: the least of all lengths from which a piece can have become as it is, by all rates and washings; no piece truly was shorter.
func TestLeastOfAllCuts(t *testing.T) {
	d := dice{1}
	seen := samples.Cases{}
	for range tries {
		l := d.mixed()
		for number, c := range l.cloths {
			for i, long := range least(t, l.cloths, l.pieces, number) {
				p := l.pieces[i]
				want := api.MaxTheftLong * 2
				for _, found := range shortestOf(p, c) {
					want = min(want, found)
				}
				if long != want {
					t.Fatalf("Least of %v, of %v = %d, not %d", p, c, long, want)
				}
				if l.owners[i] == number && l.cut[i] < long {
					t.Fatalf("%v of %v was %d long, not %d", p, c, l.cut[i], long)
				}
				switch {
				case long > p.Long+p.Off:
					seen["shrunk by more than is measured wrong"]++
				case long > p.Long:
					seen["longer"]++
				case long < p.Long:
					seen["shorter"]++
				}
			}
		}
	}
	seen.All(t, "shrunk by more than is measured wrong", "longer", "shorter")
}

// TestOwnersOfAllTruths is for P9.3 and P9.11: the cloths of which a piece is in some truth if it is the only one; that of which it truly is is among them.
func TestOwnersOfAllTruths(t *testing.T) {
	d := dice{2}
	seen := samples.Cases{}
	for range tries {
		l := d.mixed()
		truly := d.From(0, 2) > 0
		if !truly {
			d.spoil(l)
		}
		for i, list := range owners(t, l.cloths, l.pieces) {
			want := slices.Concat(waysOf(l.cloths, l.pieces[i:i+1])...)
			if !slices.Equal(list, want) {
				t.Fatalf("Owners of %v, of %v = %v, not %v", l.pieces[i], l.cloths, list, want)
			}
			if truly && !slices.Contains(list, l.owners[i]) {
				t.Fatalf("%v of %v is not among %v", l.pieces[i], l.cloths[l.owners[i]], list)
			}
			seen[fmt.Sprint(min(2, len(list)), " of ", min(2, len(l.cloths)))]++
		}
	}
	seen.All(t, "0 of 2", "1 of 2", "2 of 2")
}

// TestWaysOfAllLists is for P9.4, P9.5 and P9.11: all lists of cloths that are so in some truth, and what is the same in all of them; what truly is so is a way, and as Sure says.
func TestWaysOfAllLists(t *testing.T) {
	d := dice{3}
	seen := samples.Cases{}
	for range tries {
		l := d.mixed()
		truly := d.From(0, 2) > 0
		if !truly {
			d.spoil(l)
		}
		all := waysOf(l.cloths, l.pieces)
		name := fmt.Sprint(" of ", l.cloths, l.pieces)
		if truly && !slices.ContainsFunc(all, func(way []int) bool { return slices.Equal(way, l.owners) }) {
			t.Fatalf("%v is no way%s", l.owners, name)
		}
		if len(all) == 0 {
			counted(t, "Ways"+name, 0, nil, api.ErrState)(theft.Ways(l.cloths, l.pieces))
			samples.List[int](t, "Sure"+name, nil, api.ErrState)(theft.Sure(l.cloths, l.pieces))
			seen["none"]++
			continue
		}
		var sure []int
		for i := range l.pieces {
			owner := all[0][i]
			if len(learned(all, i, owner)) < len(all) {
				owner = -1
			}
			if truly && owner >= 0 && owner != l.owners[i] {
				t.Fatalf("the piece %d is sure, but not of %d%s", i, l.owners[i], name)
			}
			sure = append(sure, owner)
			seen[fmt.Sprint("several: ", len(all) > 1, ", sure: ", owner >= 0)]++
		}
		counted(t, "Ways"+name, len(all), all[0], api.OK)(theft.Ways(l.cloths, l.pieces))
		samples.List(t, "Sure"+name, sure, api.OK)(theft.Sure(l.cloths, l.pieces))
	}
	seen.All(t, "none", "several: true, sure: true", "several: true, sure: false", "several: false, sure: true")
}

// TestWaysByOneRate is for P9.4: pieces of one cloth shrink by one rate, and each of them is as it was found in the same truth.
func TestWaysByOneRate(t *testing.T) {
	d := dice{4}
	seen := samples.Cases{}
	for range tries {
		c := cloth(to(1, d.From(20, 60)), d.Span(0, 100, 20), to(1, 1), "a")
		var pieces []api.TheftPiece
		for range d.From(1, 4) {
			low := d.From(0, 5)
			pieces = append(pieces, piece(d.From(1, 20), d.From(0, 3), 1, to(low, d.From(low, 5)), ""))
		}
		many, _, e := theft.Ways(of(c), pieces)
		if want := len(waysOf(of(c), pieces)); many != want || (e == api.OK) != (want == 1) {
			t.Fatalf("Ways(%v, %v) = %d, %d, not %d", c, pieces, many, e, want)
		}
		seen[fmt.Sprint(many)]++
	}
	seen.All(t, "0", "1")
}

// TestAskOfAllPieces is for P9.6 and P9.13: the first piece that leaves the fewest ways at most, if it is learned of which cloth it is; no cloth leaves more, and one just so many.
func TestAskOfAllPieces(t *testing.T) {
	d := dice{5}
	seen := samples.Cases{}
	for range tries {
		l := d.mixed()
		all := waysOf(l.cloths, l.pieces)
		piece, left := 0, len(all)
		for i := range l.pieces {
			most := 0
			for c := range l.cloths {
				most = max(most, len(learned(all, i, c)))
			}
			if most < left {
				piece, left = i, most
			}
		}
		name := fmt.Sprint("Ask of ", l.cloths, l.pieces)
		if left == len(all) {
			samples.Two(t, name, 0, 0, api.ErrTwice)(theft.Ask(l.cloths, l.pieces))
			seen["all is known"]++
			continue
		}
		samples.Two(t, name, piece, left, api.OK)(theft.Ask(l.cloths, l.pieces))
		seen[fmt.Sprint("the first: ", piece == 0, ", one way: ", left == 1)]++
	}
	seen.All(t, "all is known", "the first: true, one way: true", "the first: true, one way: false", "the first: false, one way: true", "the first: false, one way: false")
}

// count is how many ways there are, also if there is none.
func count(t *testing.T, l loot) int {
	t.Helper()
	many, _, e := theft.Ways(l.cloths, l.pieces)
	if e != api.OK && e != api.ErrState {
		t.Fatalf("Ways(%v, %v) = %d", l.cloths, l.pieces, e)
	}
	return many
}

// learn makes a theft of which more is known: a letter of a mark, a length, or a rate.
func (d *dice) learn(l loot) (what string, more loot) {
	number, owner := d.From(0, len(l.pieces)-1), d.From(0, len(l.cloths)-1)
	p, c := l.pieces[number], l.cloths[owner]
	switch d.From(0, 2) {
	case 0:
		what = "a letter"
		if place := strings.Index(p.Mark, "?"); place >= 0 {
			p.Mark = p.Mark[:place] + d.text(1, 'a', 'b') + p.Mark[place+1:]
		}
	case 1:
		what = "a length"
		better := d.From(0, p.Off)
		p.Long = max(1, min(p.Long+d.From(better-p.Off, p.Off-better), api.MaxTheftLong))
		p.Off = better
	default:
		what = "a rate"
		c.Rate.Low = d.From(c.Rate.Low, c.Rate.High)
		c.Rate.High = d.From(c.Rate.Low, c.Rate.High)
	}
	more = l
	more.cloths, more.pieces = set(l.cloths, owner, c), set(l.pieces, number, p)
	return what, more
}

// TestMoreIsKnown is for P9.12: if more is known of a mark, a length or a rate there are no more ways, and no piece has more owners.
func TestMoreIsKnown(t *testing.T) {
	d := dice{6}
	seen := samples.Cases{}
	vague := small // of the lengths of which little is known
	vague.long, vague.doubt, vague.washed = 2*small.long, great.doubt, great.washed
	for i := range 3 * tries {
		l := d.loot([]measure{vague, small, great}[i%3])
		what, more := d.learn(l)
		before, after := count(t, l), count(t, more)
		if after > before {
			t.Fatalf("%d ways of %v, and %d of %v", before, l, after, more)
		}
		was := owners(t, l.cloths, l.pieces)
		for i, list := range owners(t, more.cloths, more.pieces) {
			for _, owner := range list {
				if !slices.Contains(was[i], owner) {
					t.Fatalf("Owners of %v, and of %v: %v, and %v", l, more, was[i], list)
				}
			}
		}
		if after < before {
			seen[what]++
		}
	}
	seen.All(t, "a letter", "a length", "a rate")
}

// TestAPieceLess is for P9.12: with one piece less no other one has fewer owners, and each way of all, without this one, is a way of the others.
func TestAPieceLess(t *testing.T) {
	d := dice{7}
	seen := samples.Cases{}
	for range tries {
		l := d.mixed()
		number := d.From(0, len(l.pieces)-1)
		less := without(l.pieces, number)
		if was, is := without(owners(t, l.cloths, l.pieces), number), owners(t, l.cloths, less); fmt.Sprint(was) != fmt.Sprint(is) {
			t.Fatalf("Owners of %v: %v, and %v without %d", l, was, is, number)
		}
		var others [][]int
		for _, way := range waysOf(l.cloths, l.pieces) {
			others = append(others, without(way, number))
		}
		slices.SortFunc(others, slices.Compare[[]int])
		others = slices.CompactFunc(others, slices.Equal[[]int])
		many := ways(t, l.cloths, less)
		if many < len(others) {
			t.Fatalf("%v: %d ways, without %d %d", l, len(others), number, many)
		}
		seen[fmt.Sprint("more: ", many > len(others))]++
	}
	seen.All(t, "more: true", "more: false")
}

// TestFalseOfAllSets is for P9.7 and P9.14: the first one of all sets without which the other claims are true in some way; without them all are, with any one of them they are not, and no more must be false than are.
func TestFalseOfAllSets(t *testing.T) {
	d := dice{8}
	seen := samples.Cases{}
	for range tries {
		l := d.mixed()
		claims := d.claims(l, d.From(0, api.MaxTheftClaims))
		all := waysOf(l.cloths, l.pieces)
		want := samples.First(len(claims), func(set []int) bool { return agree(all, samples.Drop(claims, set)) })
		name := fmt.Sprint("False of ", l.cloths, l.pieces, claims)
		if len(want) == 0 {
			samples.List[int](t, name, nil, api.ErrTwice)(theft.False(l.cloths, l.pieces, claims))
			seen["none"]++
			continue
		}
		samples.List(t, name, want, api.OK)(theft.False(l.cloths, l.pieces, claims))
		samples.List[int](t, name+" without them", nil, api.ErrTwice)(theft.False(l.cloths, l.pieces, samples.Drop(claims, want)))
		for i := range want {
			one, e := theft.False(l.cloths, l.pieces, samples.Drop(claims, without(want, i)))
			if len(one) != 1 || e != api.OK {
				t.Fatalf("%s without all but %d = %v, %d", name, want[i], one, e)
			}
		}
		lies := len(claims) - len(slices.DeleteFunc(slices.Clone(claims), func(c api.TheftClaim) bool { return !holds(c, l.owners) }))
		if len(want) > lies {
			t.Fatalf("%s = %v, but %d are false", name, want, lies)
		}
		seen[fmt.Sprint("fewer than are false: ", len(want) < lies)]++
		seen[[]string{"", "one", "several"}[min(2, len(want))]]++
	}
	seen.All(t, "none", "one", "several", "fewer than are false: true", "fewer than are false: false")
}

// TestLayOfAllOrders is for P9.8 and P9.15: all orders in which the edges fit; how the pieces truly lay is one of them.
func TestLayOfAllOrders(t *testing.T) {
	d := dice{9}
	seen := samples.Cases{}
	for range tries {
		pieces, order := d.strip(d.From(0, api.MaxTheftPieces), d.From(1, 6))
		truly := d.From(0, 2) > 0 || len(pieces) == 0
		if !truly {
			pieces[d.From(0, len(pieces)-1)].Left = d.text(d.From(0, 2), '1', '2')
		}
		all := laid(pieces)
		name := fmt.Sprint("Lay of ", pieces)
		if truly && !slices.ContainsFunc(all, func(other []int) bool { return slices.Equal(other, order) }) {
			t.Fatalf("%s: %v is not among %v", name, order, all)
		}
		if len(all) == 0 {
			counted(t, name, 0, nil, api.ErrState)(theft.Lay(pieces))
			seen["none"]++
			continue
		}
		counted(t, name, len(all), all[0], api.OK)(theft.Lay(pieces))
		seen[[]string{"", "one", "several"}[min(2, len(all))]]++
	}
	seen.All(t, "none", "one", "several")
}

// TestThievesOfAllMinutes is for P9.9 and P9.15: all persons who can have been there at one of all minutes; one who truly was is among them.
func TestThievesOfAllMinutes(t *testing.T) {
	d := dice{10}
	seen := samples.Cases{}
	for range tries {
		persons := d.From(1, api.MaxTheftPersons)
		gone := d.Span(0, api.MaxTheftMinute, 20)
		thief, minute := d.From(0, persons-1), d.From(gone.Low, gone.High)
		sights := d.night(persons, d.From(0, api.MaxTheftSights), gone)
		for i, s := range sights {
			if s.Person == thief { // it is true, so it leaves time enough
				sights[i].Away = min(s.Away, max(s.Minute-minute, minute-s.Minute))
			}
		}
		want := thievesOf(persons, sights, gone)
		samples.List(t, fmt.Sprint("Thieves of ", persons, sights, gone), want, api.OK)(theft.Thieves(persons, sights, gone))
		if !slices.Contains(want, thief) {
			t.Fatalf("%d was there at %d, but is not among %v: %v", thief, minute, want, sights)
		}
		samples.List[int](t, "Lied of what can be true", nil, api.ErrTwice)(theft.Lied(persons, sights, gone))
		seen[fmt.Sprint("all: ", len(want) == persons, ", one: ", len(want) == 1)]++
	}
	seen.All(t, "all: true, one: false", "all: false, one: true", "all: false, one: false")
}

// TestLiedOfAllSets is for P9.10 and P9.15: the first one of all sets of sights without which some person can have been there; no more must be false than are if a person truly was.
func TestLiedOfAllSets(t *testing.T) {
	d := dice{11}
	seen := samples.Cases{}
	for range tries {
		persons := d.From(1, 3)
		gone := d.Span(0, api.MaxTheftMinute, 8)
		sights := d.night(persons, d.From(persons, 7), gone)
		for i := range sights { // so many are away that often all of them are
			sights[i].Away += d.From(0, 20)
		}
		want := samples.First(len(sights), func(set []int) bool { return len(thievesOf(persons, samples.Drop(sights, set), gone)) > 0 })
		name := fmt.Sprint("Lied of ", persons, sights, gone)
		if len(want) == 0 {
			samples.List[int](t, name, nil, api.ErrTwice)(theft.Lied(persons, sights, gone))
			seen["none"]++
			continue
		}
		samples.List(t, name, want, api.OK)(theft.Lied(persons, sights, gone))
		thief, minute := d.From(0, persons-1), d.From(gone.Low, gone.High)
		lies := 0
		for _, s := range sights {
			if s.Person == thief && max(s.Minute-minute, minute-s.Minute) < s.Away {
				lies++
			}
		}
		if len(want) > lies {
			t.Fatalf("%s = %v, but %d are false", name, want, lies)
		}
		seen[[]string{"", "one", "several"}[min(2, len(want))]]++
		if slices.ContainsFunc(sights[:want[0]], func(s api.TheftSight) bool { return s.Person == sights[want[0]].Person }) {
			seen["one before is true"]++
		}
	}
	seen.All(t, "none", "one", "several", "one before is true")
}

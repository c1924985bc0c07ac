package turn

import (
	"cmp"
	"iter"
	"slices"

	"walkmill/api"
)

// queue is cloths of a day, in the order in which so many stocks take them.
type queue struct {
	api.TurnDay
	stocks int
	order  []int
}

// line returns the queue of some cloths of a day, by the custom's order; the others do not come.
func line(d api.TurnDay, stocks int, cloths ...int) queue {
	order := slices.Clone(cloths)
	turns := rounds(d, cloths)
	slices.SortFunc(order, func(a, b int) int {
		one, other := d.Cloths[a], d.Cloths[b]
		return cmp.Or(
			cmp.Compare(one.Comes, other.Comes),
			cmp.Compare(turns[a], turns[b]),
			cmp.Compare(d.Ranks[one.Weaver], d.Ranks[other.Weaver]))
	})
	return queue{d, stocks, order}
}

// rounds returns, by the numbers of all cloths, how many of its weaver's cloths that come at its hour stand before each of some cloths.
func rounds(d api.TurnDay, cloths []int) []int {
	turns := make([]int, len(d.Cloths))
	for _, a := range cloths {
		c := d.Cloths[a]
		turns[a] = len(chosen(cloths, func(b int) bool {
			other := d.Cloths[b]
			return b < a && other.Weaver == c.Weaver && other.Comes == c.Comes
		}))
	}
	return turns
}

// all returns the queue of all cloths of a day.
func all(d api.TurnDay, stocks int) queue {
	return line(d, stocks, numbers(len(d.Cloths))...)
}

// only returns the queue without the cloths for which a condition does not hold; the others keep their order.
func (q queue) only(holds func(cloth int) bool) queue {
	q.order = chosen(q.order, holds)
	return q
}

// truth is how long a cloth stays in a stock.
type truth func(api.TurnCloth) int

// No cloth is taken earlier if one stays longer. So what is earliest is so if all stay as briefly as they can, what is latest if all stay as long.
func briefly(c api.TurnCloth) int { return c.Hours.Low }

func long(c api.TurnCloth) int { return c.Hours.High }

// visit is when a cloth is taken, and when it is done.
type visit struct{ cloth, taken, done int }

// visits yields the visits of the cloths to the stocks in a truth, as they are taken.
func (q queue) visits(stays truth) iter.Seq[visit] {
	return func(yield func(visit) bool) {
		free := make([]int, q.stocks)
		for _, cloth := range q.order {
			c := q.Cloths[cloth]
			stock := q.first(free)
			taken := max(c.Comes, free[stock])
			free[stock] = taken + stays(c)
			if !yield(visit{cloth, taken, free[stock]}) {
				return
			}
		}
	}
}

// first returns the stock that is free first.
func (q queue) first(free []int) int {
	best := 0
	for stock := range q.stocks {
		if free[stock] < free[best] {
			best = stock
		}
	}
	return best
}

// end returns when the last cloth is done in a truth.
func (q queue) end(stays truth) int {
	last := 0
	for v := range q.visits(stays) {
		last = max(last, v.done)
	}
	return last
}

// waits yields the cloths with their greatest waits, as they are taken.
func (q queue) waits(yield func(cloth, hours int) bool) {
	for v := range q.visits(long) {
		if !yield(v.cloth, v.taken-q.Cloths[v.cloth].Comes) {
			return
		}
	}
}

// patient reports whether no cloth waits for more hours than a limit in any truth.
func (q queue) patient(limit int) bool {
	for _, hours := range q.waits {
		if hours > limit {
			return false
		}
	}
	return true
}

// greatest returns the greatest waits by the numbers of the cloths.
func (q queue) greatest() []int {
	list := make([]int, len(q.Cloths))
	for cloth, hours := range q.waits {
		list[cloth] = hours
	}
	return list
}

// longer returns the queue, in which one cloth can stay for some hours more; the order is as it was.
func (q queue) longer(cloth, hours int) queue {
	q.Cloths = slices.Clone(q.Cloths)
	q.Cloths[cloth].Hours.High += hours
	return q
}

// joined returns the queue of a day in which the cloths a and b are brought as a alone.
func joined(d api.TurnDay, stocks, a, b int) queue {
	d.Cloths = slices.Clone(d.Cloths)
	hours := &d.Cloths[a].Hours
	hours.Low += d.Cloths[b].Hours.Low
	hours.High += d.Cloths[b].Hours.High
	others := chosen(numbers(len(d.Cloths)), func(cloth int) bool { return cloth != b })
	return line(d, stocks, others...)
}

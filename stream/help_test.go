package stream_test

import (
	"iter"
	"slices"
	"testing"

	"walkmill/api"
	"walkmill/samples"
	"walkmill/stream"
)

// to and just write spans shortly, and none is a stream of so many hours without water.
func to(low, high int) api.Span { return api.Span{Low: low, High: high} }

func just(flows ...int) []api.Span {
	var list []api.Span
	for _, flow := range flows {
		list = append(list, to(flow, flow))
	}
	return list
}

func none(hours int) []api.Span { return make([]api.Span, hours) }

// plain is a mill of which all is known.
func plain(hammers, takes, holds, now int) api.StreamMill {
	return api.StreamMill{Hammers: hammers, Takes: takes, Holds: holds, Now: to(now, now)}
}

// example and exampleFlows are the mill and the stream of the chapter's examples.
func example() api.StreamMill {
	return api.StreamMill{Hammers: 3, Takes: 10, Blows: to(30, 40), Holds: 50, Now: to(20, 25)}
}

func exampleFlows() []api.Span { return []api.Span{to(10, 20), to(0, 5), to(15, 30)} }

// truth is how much is in a pond, and comes hour by hour.
type truth struct {
	now   int
	flows []int
}

// truths are all of a mill and a stream.
func truths(m api.StreamMill, flows []api.Span) []truth {
	var list []truth
	for now := m.Now.Low; now <= m.Now.High; now++ {
		list = append(list, truth{now: now})
	}
	for _, s := range flows {
		var longer []truth
		for _, x := range list {
			for flow := s.Low; flow <= s.High; flow++ {
				longer = append(longer, truth{x.now, append(slices.Clone(x.flows), flow)})
			}
		}
		list = longer
	}
	return list
}

// course is what happens in a truth, as the chapter says it: the levels at the ends of the hours that have enough, what went over the weir, and the first hour that has too little, or their number.
type course struct {
	levels []int
	over   int
	fails  int
}

func (x truth) course(m api.StreamMill, plan []int) course {
	var c course
	level := x.now
	for hour, hammers := range plan {
		level += x.flows[hour]
		if level > m.Holds {
			c.over += level - m.Holds
			level = m.Holds
		}
		if level < hammers*m.Takes {
			c.fails = hour
			return c
		}
		level -= hammers * m.Takes
		c.levels = append(c.levels, level)
	}
	c.fails = len(plan)
	return c
}

// right reports whether a plan has enough water in all of some truths.
func right(m api.StreamMill, list []truth, plan []int) bool {
	return !slices.ContainsFunc(list, func(x truth) bool { return x.course(m, plan).fails < len(plan) })
}

// changed are truths in which another amount comes in some hours.
func changed(list []truth, flow func(hour, was int) int) []truth {
	var others []truth
	for _, x := range list {
		other := truth{now: x.now}
		for hour, was := range x.flows {
			other.flows = append(other.flows, flow(hour, was))
		}
		others = append(others, other)
	}
	return others
}

// heldBack are truths of which the miller upstream takes something, and wetter those with more water in an hour.
func heldBack(list []truth, held int) []truth {
	return changed(list, func(_, was int) int { return max(0, was-held) })
}

func wetter(list []truth, at, more int) []truth {
	return changed(list, func(hour, was int) int {
		if hour == at {
			return was + more
		}
		return was
	})
}

// plans yields all plans of so many hours, in the order of lists.
func plans(hammers, hours int) iter.Seq[[]int] {
	return func(yield func([]int) bool) {
		plan := make([]int, hours)
		for {
			if !yield(slices.Clone(plan)) {
				return
			}
			hour := hours - 1
			for hour >= 0 && plan[hour] == hammers {
				plan[hour] = 0
				hour--
			}
			if hour < 0 {
				return
			}
			plan[hour]++
		}
	}
}

// steady is the plan in which hammers go from an hour on.
func steady(hours, hammers, from int) []int {
	return append(make([]int, from), slices.Repeat([]int{hammers}, hours-from)...)
}

func sum(list []int) int {
	n := 0
	for _, x := range list {
		n += x
	}
	return n
}

// dice make what is tried here.
type dice struct{ samples.Dice }

// small makes a mill and a stream of which all truths can be counted.
func (d *dice) small() (api.StreamMill, []api.Span) {
	m := api.StreamMill{Hammers: d.From(1, 3), Takes: d.From(0, 4), Blows: d.Span(0, 50, 20), Holds: d.From(0, 12)}
	m.Now = d.Span(0, m.Holds, 3)
	var flows []api.Span
	for range d.From(1, 4) {
		flows = append(flows, d.Span(0, 9, 3))
	}
	return m, flows
}

// great makes a mill and a stream of any valid size.
func (d *dice) great() (api.StreamMill, []api.Span) {
	m := api.StreamMill{
		Hammers: d.From(1, api.MaxStreamHammers),
		Takes:   d.From(0, api.MaxStreamTakes),
		Blows:   d.Span(0, api.MaxStreamBlows, api.MaxStreamBlows),
		Holds:   d.From(0, api.MaxStreamHolds),
	}
	m.Now = d.Span(0, m.Holds, m.Holds)
	most := d.From(0, api.MaxStreamFlow)
	var flows []api.Span
	for range d.From(1, api.MaxStreamHours) {
		flows = append(flows, d.Span(0, most, d.From(0, api.MaxStreamFlow)))
	}
	return m, flows
}

// plan makes a plan of so many hours.
func (d *dice) plan(hammers, hours int) []int {
	most := d.From(0, hammers)
	var plan []int
	for range hours {
		plan = append(plan, d.From(0, most))
	}
	return plan
}

// any makes a truth of a mill and a stream.
func (d *dice) any(m api.StreamMill, flows []api.Span) truth {
	x := truth{now: d.From(m.Now.Low, m.Now.High)}
	for _, s := range flows {
		x.flows = append(x.flows, d.From(s.Low, s.High))
	}
	return x
}

// most asks for what must not have an error.
func most(t *testing.T, m api.StreamMill, flows []api.Span) []int {
	t.Helper()
	plan, e := stream.Most(m, flows)
	if e != api.OK || len(plan) != len(flows) {
		t.Fatalf("%v, %v: Most = %v, %d", m, flows, plan, e)
	}
	return plan
}

// lasts asks for what must not have an error.
func lasts(t *testing.T, m api.StreamMill, flows []api.Span, hammers, from int) (surely, possibly int) {
	t.Helper()
	surely, possibly, e := stream.Lasts(m, flows, hammers, from)
	if e != api.OK {
		t.Fatalf("%v, %v: Lasts(%d, %d) = %d", m, flows, hammers, from, e)
	}
	return surely, possibly
}

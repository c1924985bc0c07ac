package stream

import (
	"walkmill/api"
	"walkmill/valid"
)

func validMill(m api.StreamMill) bool {
	return valid.Within(1, api.MaxStreamHammers, m.Hammers) &&
		valid.Within(0, api.MaxStreamTakes, m.Takes) &&
		valid.Span(m.Blows, 0, api.MaxStreamBlows) &&
		valid.Within(0, api.MaxStreamHolds, m.Holds) &&
		valid.Span(m.Now, 0, m.Holds)
}

func validFlow(s api.Span) bool {
	return valid.Span(s, 0, api.MaxStreamFlow)
}

// validPlan reports whether a plan of a valid mill has from shortest to longest hours, and no more hammers than there are.
func validPlan(m api.StreamMill, plan []int, shortest, longest int) bool {
	return valid.Within(shortest, longest, len(plan)) && valid.Within(0, m.Hammers, plan...)
}

// open returns the valley of a mill and a stream, or their error.
func open(m api.StreamMill, flows []api.Span) (valley, api.Errno) {
	if e := Check(m, flows); e != api.OK {
		return valley{}, e
	}
	return valley{StreamMill: m, flows: flows}, api.OK
}

// openPlan returns the valley of a mill and a stream, or the error that they or a plan for all hours have.
func openPlan(m api.StreamMill, flows []api.Span, plan []int) (valley, api.Errno) {
	v, e := open(m, flows)
	switch {
	case e != api.OK:
		return valley{}, e
	case !validPlan(m, plan, len(flows), len(flows)):
		return valley{}, api.ErrForm
	}
	return v, api.OK
}

// openRight is openPlan for plans that must surely be right.
func openRight(m api.StreamMill, flows []api.Span, plan []int) (valley, api.Errno) {
	v, e := openPlan(m, flows, plan)
	switch {
	case e != api.OK:
		return valley{}, e
	case !v.right(plan):
		return valley{}, api.ErrState
	}
	return v, api.OK
}

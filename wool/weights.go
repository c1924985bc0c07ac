package wool

import "walkmill/api"

// weights are what a cloth can weigh at a point: all integers of a span, or none if it ends before it begins.
type weights api.Span

// none reports whether there is no weight.
func (w weights) none() bool { return w.Low > w.High }

// both returns the weights that are among these and among some others: none if there are none of these or of those.
func (w weights) both(others weights) weights {
	return weights{max(w.Low, others.Low), min(w.High, others.High)}
}

// near returns the weights of which a reading differs by at most off.
func near(reading, off int) weights { return weights{reading - off, reading + off} }

// mostLeft returns of how many lists of weights one reading can be at most.
func mostLeft(off int, lists ...weights) int {
	most := 0
	for reading := -off; reading <= api.MaxWoolWeight+off; reading++ {
		left := 0
		for _, w := range lists {
			if !w.both(near(reading, off)).none() {
				left++
			}
		}
		most = max(most, left)
	}
	return most
}

// around returns the narrowest span that has all integers of some spans, of which there must be one.
func around(spans ...api.Span) api.Span {
	all := spans[0]
	for _, s := range spans {
		all = api.Span{Low: min(all.Low, s.Low), High: max(all.High, s.High)}
	}
	return all
}

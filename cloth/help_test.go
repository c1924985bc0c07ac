package cloth_test

import (
	"slices"
	"testing"

	"walkmill/api"
	"walkmill/cloth"
	"walkmill/samples"
)

// to, track and measure write spans, tracks and measurings shortly.
func to(low, high int) api.Span { return api.Span{Low: low, High: high} }

func track(low, high, slow, fast int) api.ClothTrack {
	return api.ClothTrack{First: to(low, high), Rate: to(slow, fast)}
}

func measure(what api.ClothWhat, hour, reading, off int) api.ClothMeasure {
	return api.ClothMeasure{What: what, Hour: hour, Reading: reading, Off: off}
}

// example is the cloth of the chapter's examples, with some measurings more.
func example(more ...api.ClothMeasure) api.Cloth {
	return api.Cloth{
		Tracks: []api.ClothTrack{track(1000, 1010, 10, 20), track(100, 100, 50, 50), track(500, 520, 0, 10)},
		Measures: append([]api.ClothMeasure{
			measure(api.ClothLong, 1, 985, 2),
			measure(api.ClothHeavy, 0, 510, 3),
		}, more...),
	}
}

// exact is a cloth of which all is known, and that does not shrink.
func exact(long, wide, heavy int) api.Cloth {
	return api.Cloth{Tracks: []api.ClothTrack{track(long, long, 0, 0), track(wide, wide, 0, 0), track(heavy, heavy, 0, 0)}}
}

// withTrack is a cloth with another track.
func withTrack(c api.Cloth, what api.ClothWhat, t api.ClothTrack) api.Cloth {
	c = api.Cloth{Tracks: slices.Clone(c.Tracks), Measures: slices.Clone(c.Measures)}
	c.Tracks[what] = t
	return c
}

// with is a cloth with some measurings more, and without is one without those of some numbers.
func with(c api.Cloth, more ...api.ClothMeasure) api.Cloth {
	return api.Cloth{Tracks: slices.Clone(c.Tracks), Measures: append(slices.Clone(c.Measures), more...)}
}

func without(c api.Cloth, numbers []int) api.Cloth {
	c.Measures = samples.Drop(c.Measures, numbers)
	return c
}

// pair is a truth of a quantity, as the chapter says it.
type pair struct{ first, rate int }

func (p pair) at(hour int) int {
	if hour == 0 {
		return p.first
	}
	before := p.at(hour - 1)
	return before - before*p.rate/1000
}

func (p pair) near(hour, reading, off int) bool {
	return p.at(hour) <= reading+off && p.at(hour) >= reading-off
}

// pairs are all truths of a quantity.
func pairs(c api.Cloth, what api.ClothWhat) []pair {
	var list []pair
	t := c.Tracks[what]
	for first := t.First.Low; first <= t.First.High; first++ {
		for rate := t.Rate.Low; rate <= t.Rate.High; rate++ {
			p := pair{first, rate}
			if !slices.ContainsFunc(c.Measures, func(m api.ClothMeasure) bool {
				return m.What == what && !p.near(m.Hour, m.Reading, m.Off)
			}) {
				list = append(list, p)
			}
		}
	}
	return list
}

// hasTruth reports whether a cloth has a truth.
func hasTruth(c api.Cloth) bool {
	return len(pairs(c, 0)) > 0 && len(pairs(c, 1)) > 0 && len(pairs(c, 2)) > 0
}

// ends are the least and the greatest number of truths.
func ends(list []pair, number func(pair) int) api.Span {
	s := to(number(list[0]), number(list[0]))
	for _, p := range list {
		s.Low, s.High = min(s.Low, number(p)), max(s.High, number(p))
	}
	return s
}

// dice make what is tried here.
type dice struct{ samples.Dice }

// track makes a track around a truth of it.
func (d *dice) track(p pair) api.ClothTrack {
	return track(
		max(1, p.first-d.From(0, 6)), min(api.MaxClothSize, p.first+d.From(0, 6)),
		max(0, p.rate-d.From(0, 6)), min(api.MaxClothRate, p.rate+d.From(0, 6)))
}

// measures makes measurings that are right in a truth.
func (d *dice) measures(truth [3]pair, n int) []api.ClothMeasure {
	var list []api.ClothMeasure
	for range n {
		what, hour, off := d.From(0, 2), d.From(0, 12), d.From(0, 4)
		reading := truth[what].at(hour) + d.From(-off, off)
		if reading >= 0 && reading <= api.MaxClothSize {
			list = append(list, measure(api.ClothWhat(what), hour, reading, off))
		}
	}
	return list
}

// cloth makes a cloth with at most n measurings, and a truth of it.
func (d *dice) cloth(n int) (api.Cloth, [3]pair) {
	var truth [3]pair
	var c api.Cloth
	for what := range truth {
		truth[what] = pair{d.From(1, 300), d.From(0, api.MaxClothRate)}
		if d.From(0, 9) == 0 {
			truth[what].first = d.From(1900, api.MaxClothSize)
		}
		c.Tracks = append(c.Tracks, d.track(truth[what]))
	}
	c.Measures = d.measures(truth, n)
	return c, truth
}

// at, rates, and below ask what must not have an error.
func at(t *testing.T, c api.Cloth, hour int) []api.Span {
	t.Helper()
	l, e := cloth.At(c, hour)
	if e != api.OK || len(l) != 3 {
		t.Fatalf("At(%v, %d) = %v, %v", c, hour, l, e)
	}
	return l
}

func rates(t *testing.T, c api.Cloth) []api.Span {
	t.Helper()
	l, e := cloth.Rates(c)
	if e != api.OK || len(l) != 3 {
		t.Fatalf("Rates(%v) = %v, %v", c, l, e)
	}
	return l
}

func below(t *testing.T, c api.Cloth, what api.ClothWhat, limit int) (surely, possibly int) {
	t.Helper()
	surely, possibly, e := cloth.Below(c, what, limit)
	if e != api.OK {
		t.Fatalf("Below(%v, %d, %d): %v", c, what, limit, e)
	}
	return surely, possibly
}

package stock_test

import (
	"iter"
	"slices"
	"testing"

	"walkmill/api"
	"walkmill/samples"
	"walkmill/stock"
)

// hours is how many hours there are, with the hour 0.
const hours = api.MaxStockHours + 1

// to and measure write spans and measurings shortly.
func to(low, high int) api.Span { return api.Span{Low: low, High: high} }

func measure(part, hour, reading, off int) api.StockMeasure {
	return api.StockMeasure{Part: part, Hour: hour, Reading: reading, Off: off}
}

// example is the cloth of the chapter's examples, with some measurings.
func example(measures ...api.StockMeasure) api.StockCloth {
	return api.StockCloth{
		Parts:    []api.Span{to(10, 12), to(10, 10)},
		Strong:   to(6, 7),
		Weak:     to(2, 2),
		Turn:     2,
		Full:     30,
		Harm:     44,
		Measures: measures,
	}
}

// set is a cloth with a change.
func set(c api.StockCloth, change func(c *api.StockCloth)) api.StockCloth {
	c = twin(c)
	change(&c)
	return c
}

// twin is a cloth that shares no memory with another one.
func twin(c api.StockCloth) api.StockCloth {
	c.Parts, c.Measures = slices.Clone(c.Parts), slices.Clone(c.Measures)
	return c
}

// plain is a cloth of which all is known, that is fit from full to harm, and is turned each hour.
func plain(strong, weak, full, harm int, parts ...int) api.StockCloth {
	c := api.StockCloth{Strong: to(strong, strong), Weak: to(weak, weak), Turn: 1, Full: full, Harm: harm}
	for _, thick := range parts {
		c.Parts = append(c.Parts, to(thick, thick))
	}
	return c
}

// with is a cloth with some measurings more, turned one with another Turn, begun one with another Start, and within one with another Full and Harm.
func with(c api.StockCloth, more ...api.StockMeasure) api.StockCloth {
	return set(c, func(c *api.StockCloth) { c.Measures = append(c.Measures, more...) })
}

func turned(c api.StockCloth, turn int) api.StockCloth {
	return set(c, func(c *api.StockCloth) { c.Turn = turn })
}

func begun(c api.StockCloth, start int) api.StockCloth {
	return set(c, func(c *api.StockCloth) { c.Start = start })
}

func within(c api.StockCloth, full, harm int) api.StockCloth {
	return set(c, func(c *api.StockCloth) { c.Full, c.Harm = full, harm })
}

// from are the hours from one to another one.
func from(first, last int) []int {
	var list []int
	for hour := first; hour <= last; hour++ {
		list = append(list, hour)
	}
	return list
}

// truth is how thick the parts are at first, and what they gain.
type truth struct {
	firsts       [api.MaxStockParts]int
	strong, weak int
}

// course is what becomes of a cloth in a truth, hour by hour: how thick its parts are, and whether it is fit.
type course struct {
	truth
	thick [hours][api.MaxStockParts]int
	fit   [hours]bool
}

// course goes through the hours as the chapter says it.
func (x truth) course(c api.StockCloth) course {
	way := course{truth: x}
	thick, beaten, left := x.firsts, c.Start, c.Turn
	for hour := range hours {
		way.thick[hour], way.fit[hour] = thick, true
		for part := range c.Parts {
			if thick[part] < c.Full || thick[part] > c.Harm {
				way.fit[hour] = false
			}
			if part == beaten {
				thick[part] += x.strong
			} else {
				thick[part] += x.weak
			}
		}
		left--
		if left == 0 {
			left = c.Turn
			beaten++
		}
		if beaten == len(c.Parts) {
			beaten = 0
		}
	}
	return way
}

// right reports whether a measuring is right in a truth.
func (way *course) right(m api.StockMeasure) bool {
	thick := way.thick[m.Hour][m.Part]
	return thick >= m.Reading-m.Off && thick <= m.Reading+m.Off
}

// rightAll reports whether all measurings of a cloth are right in a truth.
func (way *course) rightAll(c api.StockCloth) bool {
	for _, m := range c.Measures {
		if !way.right(m) {
			return false
		}
	}
	return true
}

// everFit reports whether a cloth is fit at some hour of a truth.
func (way *course) everFit() bool { return slices.Contains(way.fit[:], true) }

// firsts yields how thick parts can be at first.
func firsts(parts []api.Span) iter.Seq[[api.MaxStockParts]int] {
	return func(yield func([api.MaxStockParts]int) bool) {
		if len(parts) == 0 {
			yield([api.MaxStockParts]int{})
			return
		}
		last := len(parts) - 1
		for list := range firsts(parts[:last]) {
			for thick := parts[last].Low; thick <= parts[last].High; thick++ {
				list[last] = thick
				if !yield(list) {
					return
				}
			}
		}
	}
}

// truths yields all truths of a cloth.
func truths(c api.StockCloth) iter.Seq[*course] {
	return func(yield func(*course) bool) {
		for list := range firsts(c.Parts) {
			for strong := c.Strong.Low; strong <= c.Strong.High; strong++ {
				for weak := c.Weak.Low; weak <= c.Weak.High; weak++ {
					way := truth{list, strong, weak}.course(c)
					if way.rightAll(c) && !yield(&way) {
						return
					}
				}
			}
		}
	}
}

// hasTruth reports whether a cloth has a truth.
func hasTruth(c api.StockCloth) bool {
	for range truths(c) {
		return true
	}
	return false
}

// tally is what the count of all truths says of a cloth.
type tally struct {
	truths           int
	at               [hours][api.MaxStockParts]api.Span
	strong, weak     api.Span
	surely, possibly []int
	always, ever     bool
}

// count counts all truths of a cloth.
func count(c api.StockCloth) tally {
	var n tally
	var all, some [hours]bool
	n.always = true
	for way := range truths(c) {
		if n.truths == 0 {
			all = way.fit
		}
		n.strong, n.weak = samples.Wider(n.strong, way.strong, n.truths), samples.Wider(n.weak, way.weak, n.truths)
		for hour, fit := range way.fit {
			for part, thick := range way.thick[hour] {
				n.at[hour][part] = samples.Wider(n.at[hour][part], thick, n.truths)
			}
			all[hour], some[hour] = all[hour] && fit, some[hour] || fit
		}
		n.always, n.ever = n.always && way.everFit(), n.ever || way.everFit()
		n.truths++
	}
	for hour := range hours {
		if all[hour] {
			n.surely = append(n.surely, hour)
		}
		if some[hour] {
			n.possibly = append(n.possibly, hour)
		}
	}
	return n
}

// without is a cloth without the measurings of some numbers.
func without(c api.StockCloth, numbers []int) api.StockCloth {
	return set(c, func(c *api.StockCloth) { c.Measures = samples.Drop(c.Measures, numbers) })
}

// dice make what is tried here.
type dice struct{ samples.Dice }

// around makes a span from low to high, at most so wide, in which a number lies.
func (d *dice) around(number, low, high, wide int) api.Span {
	below := d.From(0, wide)
	return to(max(low, number-below), min(high, number+wide-below))
}

// sizes say which cloths are made: how thick parts are at most, how much they gain, and by how much they are not known.
type sizes struct{ thick, strong, weak, doubt, turn int }

// small cloths have few truths, great ones are of any valid size.
var (
	small = sizes{20, 9, 5, 2, 5}
	great = sizes{api.MaxStockThick, api.MaxStockGain, api.MaxStockGain, api.MaxStockDoubt, api.MaxStockTurn}
)

// cloth makes a cloth without measurings, and a truth in which it is fit at some hour.
func (d *dice) cloth(z sizes) (api.StockCloth, course) {
	c := api.StockCloth{Turn: d.From(1, z.turn)}
	x := truth{strong: d.From(0, z.strong)}
	x.weak = d.From(0, min(z.weak, x.strong))
	near := d.From(0, z.thick)
	for part := range d.From(1, api.MaxStockParts) {
		x.firsts[part] = min(z.thick, near+d.From(0, 2*z.doubt))
		c.Parts = append(c.Parts, d.around(x.firsts[part], 0, api.MaxStockThick, d.From(0, z.doubt)))
	}
	c.Strong = d.around(x.strong, x.weak, api.MaxStockGain, d.From(0, z.doubt))
	c.Weak = d.around(x.weak, 0, c.Strong.Low, d.From(0, z.doubt))
	c.Start = d.From(0, len(c.Parts)-1)
	way := x.course(c)
	thick := way.thick[d.From(0, api.MaxStockHours)][:len(c.Parts)]
	c.Full = max(0, slices.Min(thick)-d.From(0, 2*z.strong))
	c.Harm = min(3*api.MaxStockThick, slices.Max(thick)+d.From(0, 2*z.strong))
	return c, x.course(c)
}

// measures makes at most n measurings that are right in a truth of a cloth.
func (d *dice) measures(c api.StockCloth, way course, n int) []api.StockMeasure {
	var list []api.StockMeasure
	for range d.From(0, n) {
		part, hour, off := d.From(0, len(c.Parts)-1), d.From(0, api.MaxStockHours), d.From(0, api.MaxStockOff)
		reading := way.thick[hour][part] + d.From(-off, off)
		if reading >= 0 && reading <= 3*api.MaxStockThick {
			list = append(list, measure(part, hour, reading, off))
		}
	}
	return list
}

// measured makes a cloth with at most n measurings, and a truth of it.
func (d *dice) measured(z sizes, n int) (api.StockCloth, course) {
	c, way := d.cloth(z)
	c.Measures = d.measures(c, way, n)
	return c, way
}

// at, gains and fit ask what must not have an error.
func at(t *testing.T, c api.StockCloth, hour int) []api.Span {
	t.Helper()
	l, e := stock.At(c, hour)
	if e != api.OK || len(l) != len(c.Parts) {
		t.Fatalf("%v: At(%d) = %v, %d", c, hour, l, e)
	}
	return l
}

func gains(t *testing.T, c api.StockCloth) (strong, weak api.Span) {
	t.Helper()
	strong, weak, e := stock.Gains(c)
	if e != api.OK {
		t.Fatalf("%v: Gains = %d", c, e)
	}
	return strong, weak
}

func fit(t *testing.T, c api.StockCloth) (surely, possibly []int) {
	t.Helper()
	surely, possibly, e := stock.Fit(c)
	if e != api.OK {
		t.Fatalf("%v: Fit = %d", c, e)
	}
	return surely, possibly
}

package tenter_test

import (
	"iter"
	"slices"
	"testing"

	"walkmill/api"
	"walkmill/samples"
	"walkmill/tenter"
)

// to, cloth and field write spans, cloths and fields shortly.
func to(low, high int) api.Span { return api.Span{Low: low, High: high} }

func cloth(long, water api.Span) api.TenterCloth { return api.TenterCloth{Long: long, Water: water} }

func field(frames []int, gap, stretch int, cloths ...api.TenterCloth) api.TenterField {
	return api.TenterField{Cloths: cloths, Frames: frames, Gap: gap, Stretch: stretch}
}

// example is the field of the chapter's examples, and fair their weather.
func example() api.TenterField {
	return field([]int{520, 300}, 10, 50,
		cloth(to(200, 204), to(30, 40)), cloth(to(300, 310), to(20, 20)), cloth(to(100, 100), to(50, 60)))
}

func fair() []api.Span { return []api.Span{to(10, 20), to(15, 20), to(20, 30), to(0, 10)} }

// long is a field with dry cloths of which it is known how long they are.
func long(frames []int, gap, stretch int, lengths ...int) api.TenterField {
	f := field(frames, gap, stretch)
	for _, x := range lengths {
		f.Cloths = append(f.Cloths, cloth(to(x, x), to(0, 0)))
	}
	return f
}

// wet is a field with cloths with so much water.
func wet(waters ...api.Span) api.TenterField {
	f := field([]int{1}, 0, 0)
	for _, water := range waters {
		f.Cloths = append(f.Cloths, cloth(to(1, 1), water))
	}
	return f
}

// crowd is a field of so many cloths.
func crowd(cloths int) api.TenterField {
	return long([]int{2000}, 0, 0, slices.Repeat([]int{1}, cloths)...)
}

// steady is weather in which just as much dries in each hour.
func steady(hours, dries int) []api.Span { return slices.Repeat([]api.Span{to(dries, dries)}, hours) }

// twin is a field that shares no memory with another one.
func twin(f api.TenterField) api.TenterField {
	f.Cloths, f.Frames = slices.Clone(f.Cloths), slices.Clone(f.Frames)
	return f
}

// set is a field with a change.
func set(f api.TenterField, change func(f *api.TenterField)) api.TenterField {
	f = twin(f)
	change(&f)
	return f
}

// fault is what is wrong with a cloth of an own length that hangs at a length.
type fault struct{ slack, stretched bool }

func faultOf(f api.TenterField, own, long int) fault {
	return fault{slack: long < own, stretched: long > own*(1000+f.Stretch)/1000}
}

// faults counts the truths in which a cloth that hangs at a length is slack, or stretched too much, and all of them.
func faults(f api.TenterField, i, long int) (slack, stretched, truths int) {
	for own := f.Cloths[i].Long.Low; own <= f.Cloths[i].Long.High; own++ {
		what := faultOf(f, own, long)
		if what.slack {
			slack++
		}
		if what.stretched {
			stretched++
		}
		truths++
	}
	return slack, stretched, truths
}

// lawful reports whether a cloth can be hung at a length.
func lawful(f api.TenterField, i, long int) bool {
	slack, stretched, _ := faults(f, i, long)
	return slack == 0 && stretched == 0
}

// least is the least length at which a cloth can be hung, and whether there is one.
func least(f api.TenterField, i int) (long int, found bool) {
	for long := range 2*api.MaxTenterLong + 1 {
		if lawful(f, i, long) {
			return long, true
		}
	}
	return 0, false
}

// leasts are the least lengths of all cloths; more than any tenter is for a cloth that cannot be hung.
func leasts(f api.TenterField) []int {
	var list []int
	for i := range f.Cloths {
		long, found := least(f, i)
		if !found {
			long = 100 * api.MaxTenterLong
		}
		list = append(list, long)
	}
	return list
}

// holds reports whether a tenter is long enough for cloths with the least lengths of a field.
func holds(frame, gap int, least, cloths []int) bool {
	long := 0
	for place, i := range cloths {
		if place > 0 {
			long += gap
		}
		long += least[i]
	}
	return long <= frame
}

// fillings yields which of so many cloths are on each of so many tenters, in all ways; each list ascends.
func fillings(frames, cloths int) iter.Seq[[][]int] {
	return func(yield func([][]int) bool) {
		if cloths == 0 {
			yield(make([][]int, frames))
			return
		}
		for fill := range fillings(frames, cloths-1) {
			if !yield(fill) {
				return
			}
			for frame := range fill {
				more := slices.Clone(fill)
				more[frame] = append(slices.Clone(fill[frame]), cloths-1)
				if !yield(more) {
					return
				}
			}
		}
	}
}

func compareFills(a, b [][]int) int { return slices.CompareFunc(a, b, slices.Compare[[]int]) }

func hung(fill [][]int) int { return len(slices.Concat(fill...)) }

// can reports whether cloths hang as a filling says it.
func can(f api.TenterField, least []int, fill [][]int) bool {
	for frame, list := range fill {
		if !holds(f.Frames[frame], f.Gap, least, list) {
			return false
		}
	}
	return true
}

// best is the filling by which the most cloths hang, the smallest one of several, of all that there are.
func best(f api.TenterField) [][]int {
	var most [][]int
	long := leasts(f)
	for fill := range fillings(len(f.Frames), len(f.Cloths)) {
		if !can(f, long, fill) {
			continue
		}
		if most == nil || hung(fill) > hung(most) || hung(fill) == hung(most) && compareFills(fill, most) < 0 {
			most = fill
		}
	}
	return most
}

// part is a field with some of its cloths only.
func part(f api.TenterField, cloths []int) api.TenterField {
	return set(f, func(p *api.TenterField) {
		p.Cloths = nil
		for _, i := range cloths {
			p.Cloths = append(p.Cloths, f.Cloths[i])
		}
	})
}

// truths yields how much dries in each hour, in all truths.
func truths(weather []api.Span) iter.Seq[[]int] {
	return func(yield func([]int) bool) {
		if len(weather) == 0 {
			yield(nil)
			return
		}
		last := weather[len(weather)-1]
		for list := range truths(weather[:len(weather)-1]) {
			for x := last.Low; x <= last.High; x++ {
				if !yield(append(slices.Clone(list), x)) {
					return
				}
			}
		}
	}
}

// dryAt is the hour at which a cloth with so much water is dry in a truth, as the chapter says it.
func dryAt(water, from int, dries []int) int {
	for hour := from; hour <= len(dries); hour++ {
		dried := 0
		for _, x := range dries[from:hour] {
			dried += x
		}
		if dried >= water {
			return hour
		}
	}
	return len(dries) + 1
}

// dried is the span of the hours at which a cloth with so much water is dry, of all truths.
func dried(water api.Span, weather []api.Span, from int) api.Span {
	var hours api.Span
	n := 0
	for dries := range truths(weather) {
		for x := water.Low; x <= water.High; x++ {
			hours = samples.Wider(hours, dryAt(x, from, dries), n)
			n++
		}
	}
	return hours
}

// inTime reports whether a cloth that is hung at an hour is dry when the rain comes, in all truths.
func inTime(c api.TenterCloth, weather []api.Span, hour, rain int) bool {
	return hour <= rain && dried(c.Water, weather, hour).High <= rain
}

// dice make what is tried here.
type dice struct{ samples.Dice }

// sizes say which fields and which weather are made: how many cloths, tenters and hours there are, how long all is, how much water, and by how much it is not known.
type sizes struct{ cloths, frames, hours, long, water, dries, doubt int }

// small fields have few truths, great ones are of any valid size.
var (
	small = sizes{5, 3, 4, 25, 8, 3, 2}
	great = sizes{api.MaxTenterCloths, api.MaxTenterFrames, api.MaxTenterHours, api.MaxTenterLong, api.MaxTenterWater, api.MaxTenterDries, 60}
)

// field makes a field; on most of them some cloths can hang, but not all.
func (d *dice) field(z sizes) api.TenterField {
	f := field(nil, d.From(0, min(z.long/8, api.MaxTenterGap)), d.From(0, api.MaxTenterStretch))
	for range d.From(1, z.frames) {
		f.Frames = append(f.Frames, d.From(1, z.long))
	}
	longest := d.From(1, z.long)
	for range d.From(0, z.cloths) {
		f.Cloths = append(f.Cloths, cloth(d.Span(1, longest, z.doubt), d.Span(0, z.water, z.doubt)))
	}
	return f
}

// weather makes weather.
func (d *dice) weather(z sizes) []api.Span {
	var weather []api.Span
	for range d.From(1, z.hours) {
		weather = append(weather, d.Span(0, z.dries, z.doubt))
	}
	return weather
}

// hangs, fill, bound and dry ask what must not have an error.
func hangs(t *testing.T, f api.TenterField) []api.Span {
	t.Helper()
	list, e := tenter.Hangs(f)
	if e != api.OK || len(list) != len(f.Cloths) {
		t.Fatalf("%v: Hangs = %v, %d", f, list, e)
	}
	return list
}

func fill(t *testing.T, f api.TenterField) [][]int {
	t.Helper()
	list, e := tenter.Fill(f)
	if e != api.OK || len(list) != len(f.Frames) {
		t.Fatalf("%v: Fill = %v, %d", f, list, e)
	}
	return list
}

func bound(t *testing.T, f api.TenterField) int {
	t.Helper()
	n, e := tenter.Bound(f)
	if e != api.OK {
		t.Fatalf("%v: Bound = %d", f, e)
	}
	return n
}

func dry(t *testing.T, f api.TenterField, weather []api.Span, from int) []api.Span {
	t.Helper()
	list, e := tenter.Dry(f, weather, from)
	if e != api.OK || len(list) != len(f.Cloths) {
		t.Fatalf("%v: Dry(%v, %d) = %v, %d", f, weather, from, list, e)
	}
	return list
}

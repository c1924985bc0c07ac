// Package samples has what the tests of the layers are made of: thrown numbers, and all lists of small numbers.
package samples

import (
	"iter"
	"math"
	"slices"

	"walkmill/api"
)

// Dice are numbers that look thrown, but are the same in each run.
type Dice uint64

// From returns a number from low to high.
func (d *Dice) From(low, high int) int {
	*d = *d*6364136223846793005 + 1442695040888963407
	return low + int(uint64(*d)>>33)%(high-low+1)
}

// Mixed returns a list that has each number below n once.
func (d *Dice) Mixed(n int) []int {
	var list []int
	for x := range n {
		list = slices.Insert(list, d.From(0, len(list)), x)
	}
	return list
}

// Some returns so many of the numbers below n, in any order.
func (d *Dice) Some(many, n int) []int { return d.Mixed(n)[:many] }

// Lies reports whether a span lies within another one.
func Lies(inner, outer api.Span) bool {
	return inner.Low >= outer.Low && inner.High <= outer.High
}

// Wider returns a span of n numbers with one number more.
func Wider(s api.Span, number, n int) api.Span {
	if n == 0 {
		return api.Span{Low: number, High: number}
	}
	return api.Span{Low: min(s.Low, number), High: max(s.High, number)}
}

// UpTo returns the numbers below n.
func UpTo(n int) []int {
	var list []int
	for x := range n {
		list = append(list, x)
	}
	return list
}

// Sets returns the lists of numbers below n, each of which ascends, from shorter to longer ones and then as lists are compared.
func Sets(n int) [][]int {
	all := [][]int{nil}
	for i := range n {
		for _, list := range slices.Clone(all) {
			all = append(all, append(slices.Clone(list), i))
		}
	}
	slices.SortFunc(all, func(a, b []int) int {
		if len(a) != len(b) {
			return len(a) - len(b)
		}
		return slices.Compare(a, b)
	})
	return all
}

// First returns the first one of the sets of numbers below n, as Sets returns them, for which a condition holds; there must be one.
func First(n int, holds func(set []int) bool) []int {
	sets := Sets(n)
	return sets[slices.IndexFunc(sets, holds)]
}

// Drop returns a list without the elements at some places.
func Drop[E any](list []E, places []int) []E {
	var others []E
	for place, x := range list {
		if !slices.Contains(places, place) {
			others = append(others, x)
		}
	}
	return others
}

// Faulty returns spans that are not valid from low to high.
func Faulty(low, high int) []api.Span {
	return []api.Span{
		{Low: low - 1, High: low}, {Low: low - 1, High: high}, {Low: low - 1, High: low - 1},
		{Low: high, High: high + 1}, {Low: low, High: high + 1}, {Low: high + 1, High: high + 1}, {Low: low + 1, High: low},
		{Low: math.MinInt, High: low}, {Low: high, High: math.MaxInt}, {Low: math.MinInt, High: math.MaxInt}, {Low: math.MaxInt, High: math.MinInt}, {Low: math.MaxInt, High: low},
	}
}

// Orders returns the lists that have each number below n once, as lists are compared.
func Orders(n int) [][]int {
	all := [][]int{nil}
	for i := range n {
		var longer [][]int
		for _, list := range all {
			for at := range i + 1 {
				longer = append(longer, slices.Insert(slices.Clone(list), at, i))
			}
		}
		all = longer
	}
	slices.SortFunc(all, slices.Compare[[]int])
	return all
}

// Span returns a span from low to high, with ends that are at most apart from each other.
func (d *Dice) Span(low, high, apart int) api.Span {
	x := d.From(low, high)
	return api.Span{Low: x, High: min(high, x+d.From(0, apart))}
}

// Lists yields the lists that have a number of each span: the smaller lists first.
func Lists(spans ...api.Span) iter.Seq[[]int] {
	return func(yield func([]int) bool) {
		if len(spans) == 0 {
			yield(nil)
			return
		}
		for x := spans[0].Low; x <= spans[0].High; x++ {
			for list := range Lists(spans[1:]...) {
				if !yield(append([]int{x}, list...)) {
					return
				}
			}
		}
	}
}

// Tear returns a text of which the signs at some places cannot be read.
func Tear(text string, places ...int) string {
	signs := []byte(text)
	for _, place := range places {
		signs[place] = '?'
	}
	return string(signs)
}

// Roomy returns a list with the same elements as another one, and spare room behind them that is not zero.
func Roomy[E any](list []E, behind E) []E {
	longer := append(slices.Clone(list), behind, behind)
	return longer[:len(list)]
}

// Cases counts which cases a test has seen.
type Cases map[string]int

// All fails unless each of some cases was seen.
func (seen Cases) All(t Tester, names ...string) {
	t.Helper()
	for _, name := range names {
		if seen[name] == 0 {
			t.Errorf("no case is tried: %s, of %v", name, seen)
		}
	}
}

// Tester is a test that can fail: a *testing.T is one.
type Tester interface {
	Helper()
	Errorf(format string, args ...any)
	Fatalf(format string, args ...any)
}

// Value fails unless a result is as it is said to be, with its error.
func Value[V comparable](t Tester, name string, want V, error api.Errno) func(value V, e api.Errno) {
	return func(value V, e api.Errno) {
		t.Helper()
		if value != want || e != error {
			t.Errorf("%s = %v, %d, not %v, %d", name, value, e, want, error)
		}
	}
}

// Two fails unless two results are as they are said to be, with their error.
func Two[V comparable](t Tester, name string, want, other V, error api.Errno) func(a, b V, e api.Errno) {
	return func(a, b V, e api.Errno) {
		t.Helper()
		if a != want || b != other || e != error {
			t.Errorf("%s = %v, %v, %d, not %v, %v, %d", name, a, b, e, want, other, error)
		}
	}
}

// List fails unless a list is as it is said to be, with its error.
func List[E comparable](t Tester, name string, want []E, error api.Errno) func(list []E, e api.Errno) {
	return func(list []E, e api.Errno) {
		t.Helper()
		if !slices.Equal(list, want) || e != error {
			t.Errorf("%s = %v, %d, not %v, %d", name, list, e, want, error)
		}
	}
}

// Table fails unless a list of lists is as it is said to be, with its error.
func Table[E comparable](t Tester, name string, want [][]E, error api.Errno) func(list [][]E, e api.Errno) {
	return func(list [][]E, e api.Errno) {
		t.Helper()
		if !slices.EqualFunc(list, want, slices.Equal[[]E]) || e != error {
			t.Errorf("%s = %v, %d, not %v, %d", name, list, e, want, error)
		}
	}
}

// AnyArguments fails unless each of n wild questions is left as it was, and answered alike if it is asked again, and unless each of some errors is among the answers. Text writes values, as fmt.Sprint does.
func AnyArguments[Q any](t Tester, n int, wild func() Q, copied func(Q) Q, ask func(Q) []any, text func(...any) string, errors ...api.Errno) {
	t.Helper()
	seen := map[api.Errno]bool{}
	for range n {
		q := wild()
		other := copied(q)
		first := ask(q)
		if text(q) != text(other) {
			t.Fatalf("%v is changed to %v", other, q)
		}
		if second := ask(other); text(first...) != text(second...) {
			t.Fatalf("%v: %v, and %v", q, first, second)
		}
		for _, result := range first {
			if e, ok := result.(api.Errno); ok {
				seen[e] = true
			}
		}
	}
	for _, e := range errors {
		if !seen[e] {
			t.Errorf("the error %d is not tried", e)
		}
	}
}

// OwnMemory fails unless each of n questions, and all the room of its lists, is as it was when it was answered and its answers were wiped out, and unless it is answered alike then. Text writes values, as fmt.Sprint does.
func OwnMemory[Q any](t Tester, n int, spare func() (q, room Q), ask func(Q) []any, wipe func(result any), text func(...any) string) {
	t.Helper()
	for range n {
		q, room := spare()
		before := text(q, room)
		first := text(ask(q)...)
		for _, result := range ask(q) { // what a caller writes into a result must be seen nowhere else
			wipe(result)
		}
		if after := text(q, room); after != before {
			t.Fatalf("%s is changed to %s", before, after)
		}
		if second := text(ask(q)...); second != first {
			t.Fatalf("%s, and %s", first, second)
		}
	}
}

// Wipe clears a list with all its room.
func Wipe[E any](list []E) { clear(list[:cap(list)]) }

// WipeAll clears a list of lists, and each of them, with all their room.
func WipeAll[E any](lists [][]E) {
	for _, list := range lists {
		Wipe(list)
	}
	Wipe(lists)
}

// OwnLists fails unless each of some lists is as it was when all others are wiped out. Text writes values, as fmt.Sprint does.
func OwnLists[E any](t Tester, lists [][]E, text func(...any) string) {
	t.Helper()
	var kept [][]E
	for _, list := range lists {
		kept = append(kept, slices.Clone(list))
	}
	for number, list := range lists {
		for other := range lists {
			if other != number {
				Wipe(lists[other])
			}
		}
		if before, after := text(kept[number]), text(list); before != after {
			t.Fatalf("%s is changed to %s", before, after)
		}
		for other := range lists {
			copy(lists[other], kept[other])
		}
	}
}

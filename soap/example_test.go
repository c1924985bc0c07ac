package soap_test

import (
	"fmt"
	"slices"
	"testing"

	"walkmill/api"
	"walkmill/samples"
	"walkmill/soap"
)

// ExampleCheapest is the use that README.md shows.
func ExampleCheapest() {
	store := []api.SoapSort{
		{Takes: api.Span{Low: 8, High: 10}, Price: 3, Stains: 4, Has: 10},
		{Takes: api.Span{Low: 20, High: 24}, Price: 10, Stains: 1, Has: 5},
	}
	c := api.SoapCloth{Weight: api.Span{Low: 400, High: 420}, Grease: api.Span{Low: 100, High: 110}, Bears: 30}
	mix, price, e := soap.Cheapest(store, c)
	fmt.Println(mix, price, e == api.OK)
	// Output: [6 0] 18 true
}

// cheapest fails unless the cheapest mix of a cloth is as it is said to be; nil says that there is none.
func cheapest(t *testing.T, name string, s []api.SoapSort, c api.SoapCloth, want []int, cost int) {
	t.Helper()
	error := api.OK
	if want == nil {
		error = api.ErrState
	}
	if mix, price, e := soap.Cheapest(s, c); !slices.Equal(mix, want) || price != cost || e != error {
		t.Errorf("%s: Cheapest = %v, %d, %d, not %v, %d, %d", name, mix, price, e, want, cost, error)
	}
}

// serves fails unless the mixes of cloths are as they are said to be.
func serves(t *testing.T, name string, s []api.SoapSort, cloths []api.SoapCloth, want ...[]int) {
	t.Helper()
	if l, e := soap.Serves(s, cloths); slices.CompareFunc(l, want, slices.Compare[[]int]) != 0 || e != api.OK {
		t.Errorf("%s: Serves = %v, %d, not %v", name, l, e, want)
	}
}

// TestExampleOfGrease is for the example 1 of the chapter.
func TestExampleOfGrease(t *testing.T) {
	if s, e := soap.Grease(greasy()); s != to(40, 47) || e != api.OK {
		t.Errorf("Grease = %v, %d", s, e)
	}
	surely, possibly, stains, e := soap.Scours(store(), greasy(), []int{3, 1})
	if surely || !possibly || stains || e != api.OK {
		t.Errorf("Scours = %v, %v, %v, %d", surely, possibly, stains, e)
	}
	if s := over(t, store(), greasy(), []int{3, 1}); s != to(-3, 14) {
		t.Errorf("Over = %v", s)
	}
}

// TestExampleOfCheapest is for the example 2 of the chapter, and the example 6 of DOC.md.
func TestExampleOfCheapest(t *testing.T) {
	cheapest(t, "the example", store(), greasy(), []int{6, 0}, 18)
	tender := greasy()
	tender.Bears = 20
	cheapest(t, "a tender cloth", store(), tender, []int{4, 1}, 22)
}

// TestExampleOfDear is for the example 3 of the chapter.
func TestExampleOfDear(t *testing.T) {
	samples.Value(t, "Dear", 7, api.OK)(soap.Dear(store(), greasy(), 1))
	cheapest(t, "for 7", priced(store(), 1, 7), greasy(), []int{1, 2}, 17)
	cheapest(t, "for 8", priced(store(), 1, 8), greasy(), []int{6, 0}, 18)
	for _, x := range []struct {
		mix  []int
		cost int
	}{{[]int{1, 2}, 19}, {[]int{4, 1}, 20}} {
		if price := cost(priced(store(), 1, 8), x.mix); price != x.cost {
			t.Errorf("%v costs %d for 8, not %d", x.mix, price, x.cost)
		}
	}
}

// TestExampleOfServes is for the example 4 of the chapter.
func TestExampleOfServes(t *testing.T) {
	serves(t, "the example", store(), slices.Repeat([]api.SoapCloth{greasy()}, 4), []int{6, 0}, []int{4, 1}, []int{0, 3})
}

// TestExampleOfShort is for the example 5 of the chapter.
func TestExampleOfShort(t *testing.T) {
	surely, possibly, e := soap.Short([]api.SoapBarrel{barrel(20, 370, 4, to(48, 52)), barrel(20, 360, 4, to(48, 52))})
	if !slices.Equal(surely, []int{1}) || !slices.Equal(possibly, []int{0, 1}) || e != api.OK {
		t.Errorf("Short = %v, %v, %d", surely, possibly, e)
	}
}

// TestExampleOfSuspects is for the example 6 of the chapter.
func TestExampleOfSuspects(t *testing.T) {
	one := []api.SoapTrial{thirds()}
	samples.List(t, "Suspects", []int{6, 7, 8}, api.OK)(soap.Suspects(9, one, 0))
	samples.Value(t, "Trials", 1, api.OK)(soap.Trials(9, one))
	two := append(one, trial([]int{6}, []int{7}, api.SoapLeft))
	samples.List(t, "Suspects by two trials", []int{6}, api.OK)(soap.Suspects(9, two, 0))
	samples.Value(t, "Trials after two", 0, api.OK)(soap.Trials(9, two))
	samples.List(t, "Suspects by one that is misread", []int{6, 7, 8}, api.OK)(soap.Suspects(9, two, 1))
}

// TestExampleOfShare is for the example 7 of the chapter.
func TestExampleOfShare(t *testing.T) {
	samples.List(t, "Share", []int{4, 4, 2}, api.OK)(soap.Share([]int{3, 3, 1}, 10))
}

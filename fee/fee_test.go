package fee_test

import (
	"fmt"
	"maps"
	"math"
	"math/rand/v2"
	"reflect"
	"slices"
	"strings"
	"sync"
	"testing"

	"gladstone/api"
	"gladstone/fee"
)

// args are arguments for all functions.
type args struct {
	t                                     api.Tariff
	s                                     api.Stay
	stays                                 []api.Stay
	kind, day, left, fetched, paid, carry int
}

// ordinary returns arguments of which none is wrong.
func ordinary() args {
	return args{tariffT(), stayS(), []api.Stay{stayS(), stayS()}, 0, 2, 20, 100, 8, 2}
}

// results returns what each function says, by its name. (A nil list is written as an empty one is.)
func (a args) results() map[string]string {
	return map[string]string{
		"Check":     fmt.Sprint(fee.Check(a.t)),
		"CheckStay": fmt.Sprint(fee.CheckStay(a.t, a.s)),
		"Rate":      fmt.Sprint(fee.Rate(a.t, a.kind, a.day)),
		"Fee":       fmt.Sprint(fee.Fee(a.t, a.kind, a.left, a.fetched)),
		"Sums":      fmt.Sprint(fee.Sums(a.t, a.s)),
		"Verdict":   fmt.Sprint(fee.Verdict(a.t, a.s, a.paid)),
		"Hours":     fmt.Sprint(fee.Hours(a.t, a.s, a.paid)),
		"Over":      fmt.Sprint(fee.Over(a.t, a.s, a.paid)),
		"Ask":       fmt.Sprint(fee.Ask(a.t, a.s)),
		"Until":     fmt.Sprint(fee.Until(a.t, a.kind, a.left, a.paid)),
		"Totals":    fmt.Sprint(fee.Totals(a.t, a.stays)),
		"Parts":     fmt.Sprint(fee.Parts(a.t, a.stays, a.paid)),
		"Split":     fmt.Sprint(fee.Split(a.t, a.stays, a.paid)),
		"Ways":      fmt.Sprint(fee.Ways(a.t, a.stays, a.paid)),
		"Cheap":     fmt.Sprint(fee.Cheap(a.t, a.kind, a.left, a.fetched, a.carry)),
	}
}

// refusals returns what each function says with the error: all other results are zero values (R3).
func refusals(e api.Errno) map[string]string {
	none := api.Band{}
	return map[string]string{
		"Check":     fmt.Sprint(e),
		"CheckStay": fmt.Sprint(e),
		"Rate":      fmt.Sprint(0, e),
		"Fee":       fmt.Sprint(0, e),
		"Sums":      fmt.Sprint(ints{}, e),
		"Verdict":   fmt.Sprint(0, e),
		"Hours":     fmt.Sprint(none, none, e),
		"Over":      fmt.Sprint(none, e),
		"Ask":       fmt.Sprint(0, 0, e),
		"Until":     fmt.Sprint(0, e),
		"Totals":    fmt.Sprint(ints{}, e),
		"Parts":     fmt.Sprint(ints{}, e),
		"Split":     fmt.Sprint(ints{}, e),
		"Ways":      fmt.Sprint(0, e),
		"Cheap":     fmt.Sprint(ints{}, 0, e),
	}
}

// names returns the names of all functions.
func names() []string { return slices.Sorted(maps.Keys(refusals(api.OK))) }

// refused reports each of the functions that does not refuse the arguments with the error.
func refused(t *testing.T, what string, a args, e api.Errno, functions []string) {
	t.Helper()
	got, wanted := a.results(), refusals(e)
	for _, name := range functions {
		if got[name] != wanted[name] {
			t.Errorf("%s: %s: %s; want %s", what, name, got[name], wanted[name])
		}
	}
}

// says reports results that are not the wanted ones; both are written down by fmt.Sprint.
func says(t *testing.T, what, got string, wanted ...any) {
	t.Helper()
	if text := fmt.Sprint(wanted...); got != text {
		t.Errorf("%s: %s; want %s", what, got, text)
	}
}

// P2.1: the first error of a tariff, which all functions return first (R1, R3).
func TestCheck(t *testing.T) {
	type tariff = api.Tariff
	tests := []struct {
		what   string
		change func(t *tariff)
		want   api.Errno
	}{
		{"T", func(t *tariff) {}, api.OK},
		{"nothing", func(t *tariff) { *t = tariff{} }, api.ErrAmount},
		{"no kind", func(t *tariff) { t.Kinds = 0 }, api.ErrAmount},
		{"a kind less than none", func(t *tariff) { t.Kinds = -1 }, api.ErrAmount},
		{"4 kinds", func(t *tariff) {
			*t = tariff{Kinds: 4, First: ints{0, 0, 0, 0}, Rates: []api.Rate{rate(0, 0, 0, 0, 0)}}
		}, api.ErrAmount},
		{"3 kinds", func(t *tariff) { *t = tariff{Kinds: 3, First: ints{0, 0, 0}, Rates: []api.Rate{rate(0, 0, 0, 0)}} }, api.OK},
		{"1 kind", func(t *tariff) { *t = tariff{Kinds: 1, First: ints{0}, Rates: []api.Rate{rate(0, 0)}} }, api.OK},
		{"First 2", func(t *tariff) { t.First = ints{2} }, api.ErrFew},
		{"no First", func(t *tariff) { t.First = nil }, api.ErrFew},
		{"First 10", func(t *tariff) { t.First = ints{10} }, api.ErrFew},
		{"First 2 1 0", func(t *tariff) { t.First = ints{2, 1, 0} }, api.ErrMany},
		{"First 10 10 10", func(t *tariff) { t.First = ints{10, 10, 10} }, api.ErrMany},
		{"First 0 9", func(t *tariff) { t.First = ints{0, 9} }, api.OK},
		{"First 0 10", func(t *tariff) { t.First = ints{0, 10} }, api.ErrAmount},
		{"First -1 0", func(t *tariff) { t.First = ints{-1, 0} }, api.ErrAmount},
		{"no rate", func(t *tariff) { t.Rates = nil }, api.ErrFew},
		{"3 rates", func(t *tariff) { t.Rates = append(t.Rates, rate(4, 9, 0)) }, api.OK},
		{"4 rates", func(t *tariff) { t.Rates = make([]api.Rate, 4) }, api.ErrMany},
		{"a rate from the day -1", func(t *tariff) { t.Rates[0].From = -1 }, api.ErrAmount},
		{"a rate from the day 5", func(t *tariff) { t.Rates[1] = rate(5) }, api.ErrAmount},
		{"the first rate from the day 5", func(t *tariff) { t.Rates[0].From = 5 }, api.ErrAmount},
		{"the rate 1, 1 2 as the first one", func(t *tariff) { t.Rates[0].From = 1 }, api.ErrOrder},
		{"the first rate from the day 1", func(t *tariff) { t.Rates[0] = rate(1) }, api.ErrOrder},
		{"two rates from a day", func(t *tariff) { t.Rates[1] = rate(0) }, api.ErrOrder},
		{"two rates from the day 2", func(t *tariff) { t.Rates = append(t.Rates, rate(2, 0, 0)) }, api.ErrOrder},
		{"a rate from an earlier day", func(t *tariff) { t.Rates = append(t.Rates, rate(1, 0, 0)) }, api.ErrOrder},
		{"a rate after the last day's", func(t *tariff) { t.Rates = []api.Rate{rate(0, 0, 0), rate(4, 0, 0), rate(4, 0, 0)} }, api.ErrOrder},
		{"a rate for one kind", func(t *tariff) { t.Rates[1] = rate(2, 10) }, api.ErrFew},
		{"a rate for no kind", func(t *tariff) { t.Rates[0] = rate(0) }, api.ErrFew},
		{"a rate for three kinds", func(t *tariff) { t.Rates[0] = rate(0, 1, 10, 2) }, api.ErrMany},
		{"the rate 2, 3 10", func(t *tariff) { t.Rates[1] = rate(2, 3, 10) }, api.ErrAmount},
		{"the rate 0, -1 0", func(t *tariff) { t.Rates[0] = rate(0, -1, 0) }, api.ErrAmount},
		{"the rate 2, 9 0", func(t *tariff) { t.Rates[1] = rate(2, 9, 0) }, api.OK},
		{"nothing free", func(t *tariff) { t.Free = nil }, api.OK},
		{"all free", func(t *tariff) { t.Free = ints{0, 1, 2, 3, 4} }, api.OK},
		{"Free 5", func(t *tariff) { t.Free = ints{5} }, api.ErrUnknown},
		{"Free 3 5", func(t *tariff) { t.Free = ints{3, 5} }, api.ErrUnknown},
		{"Free -1", func(t *tariff) { t.Free = ints{-1} }, api.ErrUnknown},
		{"Free 3 -1", func(t *tariff) { t.Free = ints{3, -1} }, api.ErrUnknown},
		{"Free 3 3", func(t *tariff) { t.Free = ints{3, 3} }, api.ErrOrder},
		{"Free 3 2", func(t *tariff) { t.Free = ints{3, 2} }, api.ErrOrder},
		{"Free 3 3 5", func(t *tariff) { t.Free = ints{3, 3, 5} }, api.ErrOrder},
		{"Free 4 4", func(t *tariff) { t.Free = ints{4, 4} }, api.ErrOrder},
		{"Kinds before First", func(t *tariff) { t.Kinds, t.First = 4, nil }, api.ErrAmount},
		{"First before Rates", func(t *tariff) { t.First, t.Rates = ints{0, 10}, nil }, api.ErrAmount},
		{"Rates before Free", func(t *tariff) { t.Rates, t.Free = nil, ints{5} }, api.ErrFew},
		{"the first rate before the next", func(t *tariff) { t.Rates = []api.Rate{rate(0, 1), rate(9)} }, api.ErrFew},
	}
	for _, x := range tests {
		a := ordinary()
		a.t = with(a.t, x.change)
		says(t, x.what, fmt.Sprint(fee.Check(a.t)), x.want)
		if x.want == api.OK {
			continue
		}
		refused(t, x.what, a, x.want, names())
		a.s, a.stays, a.kind, a.day, a.left, a.paid, a.carry = stay(9, -1, 0, 0, 0), make([]api.Stay, 5), 9, 5, 120, -1, 31
		refused(t, x.what+", before all others", a, x.want, names())
	}
}

// P2.1: the error of a stay, or of stays, which comes before that of what was paid.
func TestCheckStay(t *testing.T) {
	single, list := []string{"CheckStay", "Sums", "Verdict", "Hours", "Over", "Ask"}, []string{"Totals", "Parts", "Split", "Ways"}
	tests := []struct {
		what string
		s    api.Stay
		want api.Errno
	}{
		{"S", stayS(), api.OK},
		{"the kind 2", stay(2, 20, 26, 46, 50), api.ErrUnknown},
		{"the kind -1", stay(-1, 20, 120, 46, 50), api.ErrUnknown},
		{"Left 20..120", stay(0, 20, 120, 46, 50), api.ErrAmount},
		{"Left -1..26", stay(0, -1, 26, 46, 50), api.ErrAmount},
		{"Left 120..20", stay(0, 120, 20, 46, 50), api.ErrAmount},
		{"Left 20..-1", stay(0, 20, -1, 46, 50), api.ErrAmount},
		{"Left 26..20", stay(0, 26, 20, 46, 50), api.ErrOrder},
		{"Left 26..20, Fetched 46..120", stay(0, 26, 20, 46, 120), api.ErrOrder},
		{"Fetched 46..120", stay(0, 20, 26, 46, 120), api.ErrAmount},
		{"Fetched -1..50", stay(0, 20, 26, -1, 50), api.ErrAmount},
		{"Fetched 50..46", stay(0, 20, 26, 50, 46), api.ErrOrder},
		{"Fetched 10..9", stay(0, 20, 26, 10, 9), api.ErrOrder},
		{"Left 51..60", stay(0, 51, 60, 46, 50), api.ErrContrary},
		{"Left 50..60", stay(0, 50, 60, 46, 50), api.OK},
		{"all hours", stay(1, 0, 119, 0, 119), api.OK},
	}
	for _, x := range tests {
		a := ordinary()
		says(t, x.what, fmt.Sprint(fee.CheckStay(a.t, x.s)), x.want)
		if x.want == api.OK {
			continue
		}
		a.s, a.stays, a.paid = x.s, []api.Stay{stayS(), x.s, stay(9, 0, 0, 0, 0), stayS()}, 1000
		refused(t, x.what, a, x.want, append(single, list...))
	}
	a := ordinary()
	a.stays, a.paid = []api.Stay{stay(9, 0, 0, 0, 0), stayS(), stayS(), stayS(), stayS()}, -1
	refused(t, "5 stays", a, api.ErrMany, list)
}

// The errors of what is named beside the tariff, in their order.
func TestArguments(t *testing.T) {
	tests := []struct {
		what      string
		change    func(a *args)
		want      api.Errno
		functions []string
	}{
		{"the kind 2", func(a *args) { a.kind = 2 }, api.ErrUnknown, []string{"Rate", "Fee", "Until", "Cheap"}},
		{"the kind -1", func(a *args) { a.kind = -1 }, api.ErrUnknown, []string{"Rate", "Fee", "Until", "Cheap"}},
		{"the kind before all others", func(a *args) { a.kind, a.day, a.left, a.paid, a.carry = 2, 5, 120, -1, 31 }, api.ErrUnknown, []string{"Rate", "Fee", "Until", "Cheap"}},
		{"the day 5", func(a *args) { a.day = 5 }, api.ErrAmount, []string{"Rate"}},
		{"the day -1", func(a *args) { a.day = -1 }, api.ErrAmount, []string{"Rate"}},
		{"left at 120", func(a *args) { a.left = 120 }, api.ErrAmount, []string{"Fee", "Until", "Cheap"}},
		{"left at -1", func(a *args) { a.left = -1 }, api.ErrAmount, []string{"Fee", "Until", "Cheap"}},
		{"fetched at 120", func(a *args) { a.fetched = 120 }, api.ErrAmount, []string{"Fee", "Cheap"}},
		{"fetched at -1", func(a *args) { a.fetched = -1 }, api.ErrAmount, []string{"Fee", "Cheap"}},
		{"paid -1", func(a *args) { a.paid = -1 }, api.ErrAmount, []string{"Verdict", "Hours", "Over", "Until", "Parts", "Split", "Ways"}},
		{"paid 1000", func(a *args) { a.paid = 1000 }, api.ErrAmount, []string{"Verdict", "Hours", "Over", "Until", "Parts", "Split", "Ways"}},
		{"carry -1", func(a *args) { a.carry = -1 }, api.ErrAmount, []string{"Cheap"}},
		{"carry 31", func(a *args) { a.carry = 31 }, api.ErrAmount, []string{"Cheap"}},
		{"carry 31 before the order", func(a *args) { a.carry, a.left, a.fetched = 31, 30, 20 }, api.ErrAmount, []string{"Cheap"}},
		{"fetched earlier than left", func(a *args) { a.left, a.fetched = 30, 29 }, api.ErrOrder, []string{"Fee", "Cheap"}},
	}
	for _, x := range tests {
		a := ordinary()
		x.change(&a)
		refused(t, x.what, a, x.want, x.functions)
	}
}

// P2.1: Rate and Fee.
func TestFee(t *testing.T) {
	for kind, rates := range []ints{{1, 1, 3, 0, 3}, {2, 2, 1, 0, 1}} {
		for day, pennies := range rates {
			says(t, "Rate of T", fmt.Sprint(fee.Rate(tariffT(), kind, day)), pennies, api.OK)
		}
	}
	free := with(tariffT(), func(t *api.Tariff) { t.Free = ints{0, 2} })
	says(t, "Rate on a free day", fmt.Sprint(fee.Rate(free, 1, 0)), 0, api.OK)
	says(t, "Rate on a free day of change", fmt.Sprint(fee.Rate(free, 0, 2)), 0, api.OK)
	says(t, "Rate after it", fmt.Sprint(fee.Rate(free, 0, 3)), 3, api.OK)
	for _, x := range []struct{ kind, left, fetched, want int }{
		{0, 20, 30, 3}, {0, 20, 100, 9}, {1, 20, 100, 5}, // the chapter's
		{0, 20, 20, 2}, {0, 0, 23, 2}, {0, 23, 24, 3}, {0, 0, 24, 3}, {0, 24, 47, 2}, {0, 24, 48, 5},
		{0, 48, 95, 2}, {0, 72, 95, 2}, {0, 95, 96, 5}, {0, 119, 119, 2}, {0, 0, 119, 9}, {1, 0, 119, 5},
	} {
		says(t, "Fee of T", fmt.Sprint(fee.Fee(tariffT(), x.kind, x.left, x.fetched)), x.want, api.OK)
	}
}

// P2.2: Sums and Verdict.
func TestSums(t *testing.T) {
	dear := api.Tariff{Kinds: 1, First: ints{9}, Rates: []api.Rate{rate(0, 9)}}
	free := with(dear, func(t *api.Tariff) { t.Free = ints{0, 1, 2, 3, 4} })
	for _, x := range []struct {
		what string
		t    api.Tariff
		s    api.Stay
		want ints
	}{
		{"S", tariffT(), stayS(), ints{2, 3, 5, 6}},
		{"a known stay", tariffT(), stay(0, 20, 20, 100, 100), ints{9}},
		{"some minutes", tariffT(), stay(0, 23, 24, 23, 24), ints{2, 3}},
		{"fetched as soon as left", tariffT(), stay(0, 20, 119, 3, 20), ints{2}},
		{"all hours", tariffT(), stay(1, 0, 119, 0, 119), ints{1, 2, 3, 4, 5}},
		{"all hours of the dearest", dear, stay(0, 0, 119, 0, 119), ints{9, 18, 27, 36, 45}},
		{"all hours of free days", free, stay(0, 0, 119, 0, 119), ints{9}},
	} {
		says(t, "Sums of "+x.what, fmt.Sprint(fee.Sums(x.t, x.s)), x.want, api.OK)
		for paid := range 60 {
			v := api.NoWay
			if slices.Contains(x.want, paid) {
				v = api.Perhaps
				if len(x.want) == 1 {
					v = api.Always
				}
			}
			says(t, "Verdict of "+x.what, fmt.Sprint(fee.Verdict(x.t, x.s, paid)), v, api.OK)
		}
	}
	says(t, "Verdict(T; S, 999)", fmt.Sprint(fee.Verdict(tariffT(), stayS(), 999)), api.NoWay, api.OK)
	says(t, "Verdict(T; S, 64 more than a sum)", fmt.Sprint(fee.Verdict(tariffT(), stayS(), 66)), api.NoWay, api.OK)
}

// P2.3: Hours and Over.
func TestHours(t *testing.T) {
	for _, x := range []struct {
		paid          int
		left, fetched api.Band
		e             api.Errno
	}{
		{5, band(24, 26), band(48, 50), api.OK},
		{2, band(24, 26), band(46, 47), api.OK},
		{3, band(20, 23), band(46, 47), api.OK},
		{6, band(20, 23), band(48, 50), api.OK},
		{4, band(0, 0), band(0, 0), api.ErrEmpty},
		{0, band(0, 0), band(0, 0), api.ErrEmpty},
		{66, band(0, 0), band(0, 0), api.ErrEmpty},
		{999, band(0, 0), band(0, 0), api.ErrEmpty},
	} {
		says(t, "Hours of S", fmt.Sprint(fee.Hours(tariffT(), stayS(), x.paid)), x.left, x.fetched, x.e)
	}
	s := stay(0, 0, 119, 0, 119)
	says(t, "Hours of a day", fmt.Sprint(fee.Hours(tariffT(), s, 2)), band(0, 119), band(0, 119), api.OK)
	says(t, "Hours from the first day on", fmt.Sprint(fee.Hours(tariffT(), s, 9)), band(0, 23), band(96, 119), api.OK)
	soon := stay(0, 20, 30, 15, 22)
	says(t, "Hours, fetched soon", fmt.Sprint(fee.Hours(tariffT(), soon, 2)), band(20, 22), band(20, 22), api.OK)
	for paid, want := range map[int]api.Band{5: band(-1, 3), 0: band(-6, -2), 6: band(0, 4), 999: band(993, 997)} {
		says(t, "Over of S", fmt.Sprint(fee.Over(tariffT(), stayS(), paid)), want, api.OK)
	}
}

// P2.4: Ask.
func TestAsk(t *testing.T) {
	for _, x := range []struct {
		what       string
		s          api.Stay
		hour, sums int
		e          api.Errno
	}{
		{"S, for which both are as good", stayS(), 0, 2, api.OK},
		{"Left 20..20 and Fetched 21..22", stay(0, 20, 20, 21, 22), 0, 0, api.ErrEmpty},
		{"when it was fetched is not known", stay(1, 0, 10, 90, 110), 1, 1, api.OK},
		{"when it was left is not known", stay(1, 40, 60, 50, 70), 0, 1, api.OK},
		{"an answer does not help", stay(0, 23, 24, 23, 24), 0, 0, api.ErrEmpty},
		{"fetched on more days", stay(0, 20, 24, 30, 100), 1, 2, api.OK},
	} {
		says(t, "Ask: "+x.what, fmt.Sprint(fee.Ask(tariffT(), x.s)), x.hour, x.sums, x.e)
	}
}

// P2.5: Until.
func TestUntil(t *testing.T) {
	for _, x := range []struct {
		kind, left, paid, hour int
		e                      api.Errno
	}{
		{0, 20, 3, 47, api.OK}, {0, 20, 6, 95, api.OK}, {0, 20, 1, 0, api.ErrEmpty},
		{0, 20, 2, 23, api.OK}, {0, 20, 5, 47, api.OK}, {0, 20, 8, 95, api.OK}, {0, 20, 9, 119, api.OK},
		{0, 20, 999, 119, api.OK}, {0, 0, 2, 23, api.OK}, {0, 23, 2, 23, api.OK}, {0, 24, 2, 47, api.OK},
		{0, 119, 2, 119, api.OK}, {0, 119, 1, 0, api.ErrEmpty}, {1, 0, 0, 0, api.ErrEmpty}, {1, 0, 1, 23, api.OK},
	} {
		says(t, "Until of T", fmt.Sprint(fee.Until(tariffT(), x.kind, x.left, x.paid)), x.hour, x.e)
	}
}

// P2.6: Totals, Ways, Split and Parts.
func TestLists(t *testing.T) {
	both := []api.Stay{stayS(), stayS()}
	sums := ints{4, 5, 6, 7, 8, 9, 10, 11, 12}
	pair := func(lo, hi int) []api.Band { return []api.Band{band(lo, hi), band(lo, hi)} }
	for _, x := range []struct {
		stays  []api.Stay
		totals ints
		paid   int
		ways   int
		split  ints
		parts  []api.Band
	}{
		{both, sums, 8, 4, ints{2, 6}, pair(2, 6)},
		{both, sums, 13, 0, nil, nil},
		{both, sums, 3, 0, nil, nil},
		{both, sums, 999, 0, nil, nil},
		{both, sums, 0, 0, nil, nil},
		{both, sums, 12, 1, ints{6, 6}, pair(6, 6)},
		{both, sums, 9, 2, ints{3, 6}, pair(3, 6)},
		{both, sums, 10, 1, ints{5, 5}, pair(5, 5)},
		{nil, ints{0}, 0, 1, nil, nil},
		{[]api.Stay{}, ints{0}, 1, 0, nil, nil},
		{both[:1], ints{2, 3, 5, 6}, 5, 1, ints{5}, []api.Band{band(5, 5)}},
		{both[:1], ints{2, 3, 5, 6}, 4, 0, nil, nil},
	} {
		e := api.OK
		if x.ways == 0 {
			e = api.ErrEmpty
		}
		what := fmt.Sprint(len(x.stays), " stays, paid ", x.paid, ": ")
		says(t, what+"Totals", fmt.Sprint(fee.Totals(tariffT(), x.stays)), x.totals, api.OK)
		says(t, what+"Ways", fmt.Sprint(fee.Ways(tariffT(), x.stays, x.paid)), x.ways, api.OK)
		says(t, what+"Split", fmt.Sprint(fee.Split(tariffT(), x.stays, x.paid)), x.split, e)
		says(t, what+"Parts", fmt.Sprint(fee.Parts(tariffT(), x.stays, x.paid)), x.parts, e)
	}
}

// P2.6: the most, and the dearest, stays that there can be.
func TestDearLists(t *testing.T) {
	dear := api.Tariff{Kinds: 1, First: ints{9}, Rates: []api.Rate{rate(0, 9)}}
	long := stay(0, 0, 0, 119, 119)
	stays := []api.Stay{long, long, long, long}
	says(t, "Totals", fmt.Sprint(fee.Totals(dear, stays)), ints{180}, api.OK)
	says(t, "Ways", fmt.Sprint(fee.Ways(dear, stays, 180)), 1, api.OK)
	says(t, "Split", fmt.Sprint(fee.Split(dear, stays, 180)), ints{45, 45, 45, 45}, api.OK)
	says(t, "Ways", fmt.Sprint(fee.Ways(dear, stays, 181)), 0, api.OK)
	says(t, "Split", fmt.Sprint(fee.Split(dear, stays, 181)), ints{}, api.ErrEmpty)
}

// P2.7: Cheap.
func TestCheap(t *testing.T) {
	type terms = []api.Term
	daily := api.Tariff{Kinds: 1, First: ints{0}, Rates: []api.Rate{rate(0, 2)}}
	fair := api.Tariff{Kinds: 1, First: ints{1}, Rates: []api.Rate{rate(0, 1)}}
	free := with(daily, func(t *api.Tariff) { t.Free = ints{0, 1, 2, 3, 4} })
	for _, x := range []struct {
		what                 string
		t                    api.Tariff
		left, fetched, carry int
		terms                terms
		pennies              int
	}{
		{"the chapter's", tariffT(), 20, 100, 2, terms{term(20, 46), term(48, 94), term(96, 100)}, 7},
		{"who carries nothing", tariffT(), 20, 100, 0, terms{term(20, 100)}, 9},
		{"at one hour", tariffT(), 50, 50, 30, terms{term(50, 50)}, 2},
		{"on one day", tariffT(), 0, 23, 30, terms{term(0, 23)}, 2},
		{"over a midnight", daily, 23, 24, 1, terms{term(23, 23), term(24, 24)}, 0},
		{"each midnight", daily, 20, 60, 1, terms{term(20, 23), term(24, 47), term(48, 60)}, 0},
		{"as early as it can be", daily, 20, 60, 3, terms{term(20, 21), term(24, 45), term(48, 60)}, 0},
		{"no term saves more than it costs", fair, 20, 60, 1, terms{term(20, 60)}, 3},
		{"two midnights at once", fair, 20, 60, 25, terms{term(20, 23), term(48, 60)}, 2},
		{"nothing on all days", free, 0, 119, 30, terms{term(0, 119)}, 0},
	} {
		says(t, "Cheap: "+x.what, fmt.Sprint(fee.Cheap(x.t, 0, x.left, x.fetched, x.carry)), x.terms, x.pennies, api.OK)
	}
}

// R2, R4, R6: a call depends on its arguments alone, and changes none of them.
func TestAgain(t *testing.T) {
	a := ordinary()
	before := a.results()
	var group sync.WaitGroup
	for range 4 {
		group.Go(func() {
			for range 20 {
				if again := a.results(); !maps.Equal(again, before) {
					t.Errorf("%v; before %v", again, before)
				}
			}
		})
	}
	group.Wait()
	if !reflect.DeepEqual(a, ordinary()) {
		t.Error("arguments are changed:", a)
	}
}

// R4: no result shares memory with another one.
func TestMemory(t *testing.T) {
	a := ordinary()
	before := a.results()
	sums, _ := fee.Sums(a.t, a.s)
	totals, _ := fee.Totals(a.t, a.stays)
	split, _ := fee.Split(a.t, a.stays, a.paid)
	parts, _ := fee.Parts(a.t, a.stays, a.paid)
	terms, _, _ := fee.Cheap(a.t, a.kind, a.left, a.fetched, a.carry)
	for _, l := range []ints{sums, totals, split} {
		l[0] = -7
		_ = append(l, -8)
	}
	parts[0], terms[0] = band(-7, -7), term(-7, -7)
	if again := a.results(); !maps.Equal(again, before) {
		t.Errorf("%v; before %v", again, before)
	}
}

// P1, R5: whatever the arguments are, a function returns, with zero values beside an error.
func TestAnything(t *testing.T) {
	rng := rand.New(rand.NewPCG(5, 6))
	odd := ints{math.MinInt, -1, 0, 1, 2, 3, 4, 5, 9, 10, 23, 24, 30, 31, 119, 120, 999, 1000, math.MaxInt - 1, math.MaxInt}
	some := func() int { return odd[rng.IntN(len(odd))] }
	blank := map[string][]string{} // what a function may say if there is an error
	for e := api.OK + 1; e <= api.ErrClosed; e++ {
		for name, text := range refusals(e) {
			blank[name] = append(blank[name], text)
		}
	}
	for range 10000 {
		a := args{t: drawnTariff(rng)}
		a.s, a.stays = drawnStay(rng, a.t), drawnStays(rng, a.t)
		a.kind, a.day, a.left, a.fetched, a.paid, a.carry = some(), some(), some(), some(), some(), some()
		for range rng.IntN(3) {
			switch rng.IntN(8) {
			case 0:
				a.t.Kinds = some()
			case 1:
				a.t.First[0] = some()
			case 2:
				a.t.First = append(a.t.First, some())
			case 3:
				a.t.Rates = append(a.t.Rates, rate(some(), some(), some()))
			case 4:
				a.t.Free = append(a.t.Free, some())
			case 5:
				a.s = stay(some(), some(), some(), some(), some())
			case 6:
				a.stays = append(a.stays, stay(some(), some(), some(), some(), some()))
			case 7:
				a.t.Rates[0].Pennies = nil
			}
		}
		for name, text := range a.results() {
			if !strings.HasSuffix(text, fmt.Sprint(api.OK)) && !slices.Contains(blank[name], text) {
				t.Fatalf("%s of %v: %s", name, a, text)
			}
		}
	}
}

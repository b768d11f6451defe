package barrow_test

import (
	"fmt"
	"maps"
	"math"
	"math/rand/v2"
	"reflect"
	"slices"
	"strings"
	"sync"
	"testing"

	"gladstone/api"
	"gladstone/barrow"
)

// args are arguments for all functions.
type args struct {
	h       api.Haul
	plan    ints
	minutes int
}

// ordinary returns arguments of which none is wrong, and with which no function returns ErrEmpty but First.
func ordinary() args { return args{haulH(), ints{1, 1, 1}, 6} }

// results returns what each function says, by its name. (A nil list is written as an empty one is.)
func (a args) results() map[string]string {
	return map[string]string{
		"Check":   fmt.Sprint(barrow.Check(a.h)),
		"Jobs":    fmt.Sprint(barrow.Jobs(a.h)),
		"Drive":   fmt.Sprint(barrow.Drive(a.h, a.plan, a.minutes)),
		"Late":    fmt.Sprint(barrow.Late(a.h, a.plan, a.minutes)),
		"Verdict": fmt.Sprint(barrow.Verdict(a.h, a.plan)),
		"Plan":    fmt.Sprint(barrow.Plan(a.h, a.minutes)),
		"Sure":    fmt.Sprint(barrow.Sure(a.h)),
		"Count":   fmt.Sprint(barrow.Count(a.h, a.minutes)),
		"Best":    fmt.Sprint(barrow.Best(a.h, a.minutes)),
		"First":   fmt.Sprint(barrow.First(a.h, a.minutes)),
		"Fewest":  fmt.Sprint(barrow.Fewest(a.h, a.minutes)),
		"Slowest": fmt.Sprint(barrow.Slowest(a.h)),
		"Notice":  fmt.Sprint(barrow.Notice(a.h, a.minutes)),
		"Rule":    fmt.Sprint(barrow.Rule(a.h, a.minutes)),
	}
}

// refusals returns what each function says with the error: all other results are zero values (R3).
func refusals(e api.Errno) map[string]string {
	nothing := ints{}
	return map[string]string{
		"Check":   fmt.Sprint(e),
		"Jobs":    fmt.Sprint(nothing, e),
		"Drive":   fmt.Sprint(rides{}, e),
		"Late":    fmt.Sprint(nothing, e),
		"Verdict": fmt.Sprint(0, e),
		"Plan":    fmt.Sprint(nothing, e),
		"Sure":    fmt.Sprint(nothing, e),
		"Count":   fmt.Sprint(0, e),
		"Best":    fmt.Sprint(nothing, 0, e),
		"First":   fmt.Sprint(0, 0, e),
		"Fewest":  fmt.Sprint(0, e),
		"Slowest": fmt.Sprint(0, e),
		"Notice":  fmt.Sprint(0, e),
		"Rule":    fmt.Sprint(0, e),
	}
}

// names returns the names of all functions.
func names() []string { return slices.Sorted(maps.Keys(refusals(api.OK))) }

// ofPlans and ofMinutes are the functions that return the error of a plan, and of minutes.
func ofPlans() []string { return []string{"Drive", "Late", "Verdict"} }

func ofMinutes() []string {
	return []string{"Drive", "Late", "Plan", "Count", "Best", "First", "Fewest", "Notice", "Rule"}
}

// refused reports each of the functions that does not refuse the arguments with the error.
func refused(t *testing.T, what string, a args, e api.Errno, functions ...string) {
	t.Helper()
	got, wanted := a.results(), refusals(e)
	for _, name := range functions {
		if got[name] != wanted[name] {
			t.Errorf("%s: %s: %s; want %s", what, name, got[name], wanted[name])
		}
	}
}

// says reports results that are not the wanted ones; both are written down by fmt.Sprint.
func says(t *testing.T, what, got string, wanted ...any) {
	t.Helper()
	if text := fmt.Sprint(wanted...); got != text {
		t.Errorf("%s: %s; want %s", what, got, text)
	}
}

// timed, trip and numbers change the minutes of calls, those of a trip, and Notice, Load and Barrows.
func timed(times ...int) func(h *api.Haul) { return func(h *api.Haul) { h.Times = times } }

func trip(from, to int) func(h *api.Haul) { return func(h *api.Haul) { h.Trip = band(from, to) } }

func numbers(notice, load, barrows int) func(h *api.Haul) {
	return func(h *api.Haul) { h.Notice, h.Load, h.Barrows = notice, load, barrows }
}

// P6.1: the first error of a haul, which all functions return first (R1, R3).
func TestCheck(t *testing.T) {
	for _, x := range []struct {
		what   string
		change func(h *api.Haul)
		want   api.Errno
	}{
		{"H", func(h *api.Haul) {}, api.OK},
		{"nothing", func(h *api.Haul) { *h = api.Haul{} }, api.ErrAmount},
		{"no place", func(h *api.Haul) { h.Vault.Places = 0 }, api.ErrAmount},
		{"no place, before the truth", func(h *api.Haul) { h.Vault.Places, h.Truth = 0, nil }, api.ErrAmount},
		{"three in two places", func(h *api.Haul) { h.Vault.Start, h.Rule = ints{0, 1, 2}, 4 }, api.ErrMany},
		{"Start 0 0", func(h *api.Haul) { h.Vault.Start, h.Truth = ints{0, 0}, nil }, api.ErrRepeat},
		{"a call 1 4", func(h *api.Haul) { h.Vault.Calls[2], h.Times = ints{1, 4}, nil }, api.ErrUnknown},
		{"a call 3 1", func(h *api.Haul) { h.Vault.Calls[2], h.Times = ints{3, 1}, nil }, api.ErrOrder},
		{"a call of no piece", func(h *api.Haul) { h.Vault.Calls[2], h.Times = nil, make(ints, 9) }, api.ErrFew},
		{"a truth of three", func(h *api.Haul) { h.Truth, h.Rule = h.Truth[:3], 4 }, api.ErrFew},
		{"a truth of five", func(h *api.Haul) { h.Truth, h.Rule = longer(h.Truth, 0), 4 }, api.ErrMany},
		{"not in the list", func(h *api.Haul) { h.Truth[2], h.Rule = 2, 4 }, api.ErrContrary},
		{"the rule 4", func(h *api.Haul) { h.Rule = 4 }, api.ErrKind},
		{"the rule -1", func(h *api.Haul) { h.Rule = -1 }, api.ErrKind},
		{"the rule 3", func(h *api.Haul) { h.Rule = 3 }, api.OK},
		{"the rule 4, before Times", func(h *api.Haul) { h.Rule, h.Times, h.Notice = 4, nil, 31 }, api.ErrKind},
		{"no times", timed(), api.ErrFew},
		{"three times", timed(10, 12, 20), api.ErrFew},
		{"three times, before what they are", timed(-1, 12, 11), api.ErrFew},
		{"five times", timed(10, 12, 20, 30, 40), api.ErrMany},
		{"five times, before what they are", timed(-1, 12, 11, 100, 0), api.ErrMany},
		{"a time -1", timed(-1, 12, 20, 30), api.ErrAmount},
		{"a time 0", timed(0, 12, 20, 30), api.OK},
		{"a time 99", timed(10, 12, 20, 99), api.OK},
		{"a time 100", timed(10, 12, 20, 100), api.ErrAmount},
		{"times 10 12 20 19", timed(10, 12, 20, 19), api.ErrOrder},
		{"times 10 9 20 30", timed(10, 9, 20, 30), api.ErrOrder},
		{"times 10 12 9 11", timed(10, 12, 9, 11), api.ErrOrder},
		{"times 10 12 11 100", timed(10, 12, 11, 100), api.ErrOrder},
		{"times 10 12 100 30", timed(10, 12, 100, 30), api.ErrAmount},
		{"times 10 12 -1 30", timed(10, 12, -1, 30), api.ErrAmount},
		{"equal times", timed(0, 0, 99, 99), api.OK},
		{"a time 100, before Trip", func(h *api.Haul) { h.Times[3], h.Trip = 100, band(6, 3) }, api.ErrAmount},
		{"times in disorder, before Notice", func(h *api.Haul) { h.Times[3], h.Notice = 0, 31 }, api.ErrOrder},
		{"notice -1", numbers(-1, 2, 1), api.ErrAmount},
		{"notice 0", numbers(0, 2, 1), api.OK},
		{"notice 30", numbers(30, 2, 1), api.OK},
		{"notice 31", numbers(31, 2, 1), api.ErrAmount},
		{"load 0", numbers(8, 0, 1), api.ErrAmount},
		{"load 1", numbers(8, 1, 1), api.OK},
		{"load 3", numbers(8, 3, 1), api.OK},
		{"load 4", numbers(8, 4, 1), api.ErrAmount},
		{"no barrow", numbers(8, 2, 0), api.ErrAmount},
		{"-1 barrows", numbers(8, 2, -1), api.ErrAmount},
		{"4 barrows", numbers(8, 2, 4), api.OK},
		{"5 barrows", numbers(8, 2, 5), api.ErrAmount},
		{"notice 31, before Trip", func(h *api.Haul) { h.Notice, h.Trip = 31, band(6, 3) }, api.ErrAmount},
		{"load 0, before Trip", func(h *api.Haul) { h.Load, h.Trip = 0, band(6, 3) }, api.ErrAmount},
		{"no barrow, before Trip", func(h *api.Haul) { h.Barrows, h.Trip = 0, band(6, 3) }, api.ErrAmount},
		{"trip 6..3", trip(6, 3), api.ErrOrder},
		{"trip 20..1", trip(20, 1), api.ErrOrder},
		{"trip 1..20", trip(1, 20), api.OK},
		{"trip 1..1", trip(1, 1), api.OK},
		{"trip 20..20", trip(20, 20), api.OK},
		{"trip 0..3", trip(0, 3), api.ErrAmount},
		{"trip 3..21", trip(3, 21), api.ErrAmount},
		{"trip 21..3", trip(21, 3), api.ErrAmount},
		{"trip 6..0", trip(6, 0), api.ErrAmount},
		{"trip -1..-2", trip(-1, -2), api.ErrAmount},
	} {
		a := ordinary()
		a.h = with(a.h, x.change)
		says(t, x.what, fmt.Sprint(barrow.Check(a.h)), x.want)
		if x.want == api.OK {
			continue
		}
		refused(t, x.what, a, x.want, names()...)
		for _, bad := range []ints{nil, {0}, {4, 4, 4, 4}} {
			refused(t, x.what+", before all others", args{a.h, bad, 21}, x.want, names()...)
		}
	}
}

// P6.1, P6.2: the first error of a plan, before the one of minutes (R1, R3).
func TestPlanErrors(t *testing.T) {
	for _, x := range []struct {
		plan ints
		want api.Errno
	}{
		{ints{2, 1}, api.OK},
		{ints{1, 2}, api.OK},
		{ints{1, 1, 1}, api.OK},
		{ints{3}, api.ErrAmount},
		{ints{3, 0}, api.ErrAmount},
		{ints{2, 1, 0}, api.ErrAmount},
		{ints{0, 2, 1}, api.ErrAmount},
		{ints{1, 1, -1, 2}, api.ErrAmount},
		{ints{math.MinInt, math.MinInt, 3}, api.ErrAmount},
		{ints{2, 2, 2, 3}, api.ErrAmount},
		{ints{1, 1}, api.ErrContrary},
		{ints{2, 2}, api.ErrContrary},
		{ints{1, 1, 1, 1}, api.ErrContrary},
		{nil, api.ErrContrary},
	} {
		what := fmt.Sprint("plan ", x.plan)
		if x.want != api.OK {
			refused(t, what, args{haulH(), x.plan, 6}, x.want, ofPlans()...)
			refused(t, what+", before minutes", args{haulH(), x.plan, 21}, x.want, ofPlans()...)
			continue
		}
		_, a := barrow.Drive(haulH(), x.plan, 6)
		_, b := barrow.Late(haulH(), x.plan, 6)
		_, c := barrow.Verdict(haulH(), x.plan)
		says(t, what, fmt.Sprint(a, b, c), api.OK, api.OK, api.OK)
	}
	refused(t, "no job", args{jobsAt(1, 1, 1), ints{1}, 6}, api.ErrContrary, ofPlans()...)
	refused(t, "one at once", args{jobsAt(1, 1, 1, 5, 5), ints{2}, 6}, api.ErrAmount, ofPlans()...)
	says(t, "three at once", fmt.Sprint(barrow.Late(jobsAt(6, 3, 1, 5, 5, 5), ints{3}, 6)), ints{0, 0, 0}, api.OK)
}

// P6.1, P6.3 to P6.6: the error of minutes, which need not be within Trip (R1, R3).
func TestMinutesErrors(t *testing.T) {
	for _, minutes := range []int{0, -1, 21, math.MinInt, math.MaxInt} {
		a := ordinary()
		a.minutes = minutes
		refused(t, fmt.Sprint("minutes ", minutes), a, api.ErrAmount, ofMinutes()...)
		got := a.results()
		says(t, "Verdict", got["Verdict"], api.Perhaps, api.OK)
		says(t, "Sure", got["Sure"], ints{2, 1}, api.OK)
		says(t, "Slowest", got["Slowest"], 6, api.OK)
	}
	for minutes := 1; minutes <= api.BarrowTrip; minutes++ {
		h := jobsAt(20, 1, 1, 50)
		says(t, "Plan", fmt.Sprint(barrow.Plan(h, minutes)), ints{1}, api.OK)
		says(t, "Drive", fmt.Sprint(barrow.Drive(h, ints{1}, minutes)), rides{{Out: 30, Back: 30 + minutes}}, api.OK)
	}
}

// allThere is H of an office in which all pieces are.
func allThere() api.Haul {
	return with(haulH(), func(h *api.Haul) { h.Vault.Places, h.Vault.Start = 4, ints{3, 2, 1, 0} })
}

// P6.1: Jobs.
func TestJobs(t *testing.T) {
	rule := func(rule int) func(h *api.Haul) { return func(h *api.Haul) { h.Rule = rule } }
	for _, x := range []struct {
		what   string
		change func(h *api.Haul)
		want   ints
	}{
		{"H", func(h *api.Haul) {}, ints{0, 1, 2}},
		{"RuleLow", rule(api.RuleLow), ints{0, 1, 2, 3}},
		{"RuleStale", rule(api.RuleStale), ints{0, 1, 2}},
		{"RuleLate", rule(api.RuleLate), ints{0, 2}},
		{"another truth", func(h *api.Haul) { h.Truth[2], h.Rule = 3, api.RuleLow }, ints{0, 1, 2, 3}},
		{"another truth, RuleLate", func(h *api.Haul) { h.Truth[2], h.Rule = 3, api.RuleLate }, ints{0, 2}},
		{"three places", func(h *api.Haul) { h.Vault.Places = 3 }, ints{0}},
		{"three places, nothing there", func(h *api.Haul) { h.Vault.Places, h.Vault.Start = 3, nil }, ints{0, 1, 2}},
		{"all there", func(h *api.Haul) { *h = allThere() }, nil},
		{"no call", func(h *api.Haul) { *h = jobsAt(0, 1, 1) }, nil},
		{"each call", func(h *api.Haul) { *h = jobsAt(0, 1, 1, 0, 0, 0, 1, 1, 2, 3, 9) }, ints{0, 1, 2, 3, 4, 5, 6, 7}},
	} {
		says(t, "Jobs: "+x.what, fmt.Sprint(barrow.Jobs(with(haulH(), x.change))), x.want, api.OK)
	}
}

// P6.1: Drive and Late.
func TestDrive(t *testing.T) {
	ride := func(barrow, out, back int) api.Ride { return api.Ride{Barrow: barrow, Out: out, Back: back} }
	early := jobsAt(2, 1, 2, 0, 5, 6, 20)
	for _, x := range []struct {
		what    string
		h       api.Haul
		plan    ints
		minutes int
		rides   rides
		late    ints
	}{
		{"H", haulH(), ints{2, 1}, 6, rides{ride(0, 4, 10), ride(0, 12, 18)}, ints{0, 0, 0}},
		{"one by one", haulH(), ints{1, 1, 1}, 6, rides{ride(0, 2, 8), ride(0, 8, 14), ride(0, 14, 20)}, ints{0, 2, 0}},
		{"two at the end", haulH(), ints{1, 2}, 6, rides{ride(0, 2, 8), ride(0, 12, 18)}, ints{0, 6, 0}},
		{"slower than Trip", haulH(), ints{2, 1}, 20, rides{ride(0, 4, 24), ride(0, 24, 44)}, ints{14, 12, 24}},
		{"faster than Trip", haulH(), ints{2, 1}, 1, rides{ride(0, 4, 5), ride(0, 12, 13)}, ints{0, 0, 0}},
		{"RuleLate", withRule(haulH(), api.RuleLate), ints{1, 1}, 9, rides{ride(0, 2, 11), ride(0, 12, 21)}, ints{1, 1}},
		{"the least number goes first", jobsAt(5, 1, 3, 0, 0, 0, 0, 9), ints{1, 1, 1, 1, 1}, 3,
			rides{ride(0, -5, -2), ride(1, -5, -2), ride(2, -5, -2), ride(0, -2, 1), ride(1, 4, 7)}, ints{0, 0, 0, 1, 0}},
		{"the one that is back first", early, ints{1, 1, 1, 1}, 4, rides{ride(0, -2, 2), ride(1, 3, 7), ride(0, 4, 8), ride(1, 18, 22)}, ints{2, 2, 2, 2}},
		{"one after the other", jobsAt(0, 1, 2, 0, 9, 9), ints{1, 1, 1}, 1, rides{ride(0, 0, 1), ride(1, 9, 10), ride(0, 9, 10)}, ints{1, 1, 1}},
		{"known long before", jobsAt(30, 1, 1, 0), ints{1}, 20, rides{ride(0, -30, -10)}, ints{0}},
		{"back before the other goes first", jobsAt(30, 1, 2, 0, 30), ints{1, 1}, 1, rides{ride(0, -30, -29), ride(1, 0, 1)}, ints{0, 0}},
		{"three at once", jobsAt(30, 3, 1, 0, 0, 0, 0), ints{3, 1}, 20, rides{ride(0, -30, -10), ride(0, -10, 10)}, ints{0, 0, 0, 10}},
		{"no notice", jobsAt(0, 1, 1, 7), ints{1}, 1, rides{ride(0, 7, 8)}, ints{1}},
		{"just in time", jobsAt(5, 1, 1, 7), ints{1}, 5, rides{ride(0, 2, 7)}, ints{0}},
		{"four barrows", jobsAt(0, 1, 4, 3, 3, 3, 3, 3), ints{1, 1, 1, 1, 1}, 20,
			rides{ride(0, 3, 23), ride(1, 3, 23), ride(2, 3, 23), ride(3, 3, 23), ride(0, 23, 43)}, ints{20, 20, 20, 20, 40}},
		{"not before the last one is known", jobsAt(6, 3, 1, 0, 3, 10), ints{3}, 5, rides{ride(0, 4, 9)}, ints{9, 6, 0}},
		{"the latest minutes", jobsAt(0, 1, 1, 99, 99, 99, 99, 99, 99, 99, 99), slices.Repeat(ints{1}, 8), 20,
			rides{ride(0, 99, 119), ride(0, 119, 139), ride(0, 139, 159), ride(0, 159, 179), ride(0, 179, 199), ride(0, 199, 219), ride(0, 219, 239), ride(0, 239, 259)},
			ints{20, 40, 60, 80, 100, 120, 140, 160}},
		{"no job", allThere(), nil, 3, nil, nil},
	} {
		says(t, "Drive: "+x.what, fmt.Sprint(barrow.Drive(x.h, x.plan, x.minutes)), x.rides, api.OK)
		says(t, "Late: "+x.what, fmt.Sprint(barrow.Late(x.h, x.plan, x.minutes)), x.late, api.OK)
	}
}

// P6.2: Verdict.
func TestVerdict(t *testing.T) {
	one := jobsAt(5, 1, 1, 9)
	for _, x := range []struct {
		what string
		h    api.Haul
		plan ints
		want int
	}{
		{"H", haulH(), ints{2, 1}, api.Always},
		{"one by one", haulH(), ints{1, 1, 1}, api.Perhaps},
		{"two at the end", haulH(), ints{1, 2}, api.NoWay},
		{"just slow enough", with(haulH(), trip(6, 6)), ints{1, 1, 1}, api.NoWay},
		{"fast enough", with(haulH(), trip(5, 5)), ints{1, 1, 1}, api.Always},
		{"from 1 to 5", with(one, trip(1, 5)), ints{1}, api.Always},
		{"from 5 to 6", with(one, trip(5, 6)), ints{1}, api.Perhaps},
		{"from 1 to 20", with(one, trip(1, 20)), ints{1}, api.Perhaps},
		{"from 6 to 20", with(one, trip(6, 20)), ints{1}, api.NoWay},
		{"known for 20 minutes", with(jobsAt(20, 1, 1, 9), trip(1, 20)), ints{1}, api.Always},
		{"no notice", with(jobsAt(0, 1, 1, 9), trip(1, 20)), ints{1}, api.NoWay},
		{"no job", allThere(), nil, api.Always},
	} {
		says(t, "Verdict: "+x.what, fmt.Sprint(barrow.Verdict(x.h, x.plan)), x.want, api.OK)
	}
}

// stale, old: hauls of two jobs at one minute, one of which RuleStale, or RuleOld, does not fetch.
func stale() api.Haul {
	return with(jobsAt(5, 1, 1, 10, 10, 10), func(h *api.Haul) {
		h.Vault, h.Truth = api.Vault{Places: 2, Pieces: 3, Start: ints{0, 1}, Calls: []ints{{0}, {2}, {0}}}, ints{0, 2, 0}
	})
}

func old() api.Haul {
	return with(jobsAt(5, 1, 1, 10, 10), func(h *api.Haul) {
		h.Vault, h.Truth = api.Vault{Places: 2, Pieces: 3, Start: ints{1, 0}, Calls: []ints{{2}, {0}}}, ints{2, 0}
	})
}

// P6.2 to P6.6: Sure, Plan, Count, Best, First, Fewest, Slowest, Notice and Rule.
func TestPlans(t *testing.T) {
	three, five := jobsAt(6, 2, 2, 5, 5, 5, 9), jobsAt(3, 3, 1, 0, 3, 4, 4, 8)
	eight := jobsAt(30, 3, 1, 0, 0, 0, 0, 0, 0, 0, 0)
	low, late := api.RuleLow, api.RuleLate
	ones := func(n int) ints { return slices.Repeat(ints{1}, n) }
	for _, x := range []struct {
		what    string
		h       api.Haul
		minutes int
		told
	}{
		{"H", haulH(), 6, told{ints{2, 1}, 1, ints{2, 1}, 0, none, 0, ints{2, 1}, true, 1, 6, 8, low}},
		{"H", haulH(), 3, told{ints{1, 1, 1}, 2, ints{1, 1, 1}, 0, none, 0, ints{2, 1}, true, 1, 6, 4, low}},
		{"H", haulH(), 7, told{nil, 0, ints{2, 1}, 1, 0, 1, ints{2, 1}, true, 2, 6, 9, late}},
		{"H", haulH(), 8, told{nil, 0, ints{2, 1}, 2, 0, 2, ints{2, 1}, true, 2, 6, 10, late}},
		{"H", haulH(), 9, told{nil, 0, ints{2, 1}, 3, 0, 3, ints{2, 1}, true, none, 6, 11, none}},
		{"H", haulH(), 20, told{nil, 0, ints{2, 1}, 24, 0, 14, ints{2, 1}, true, none, 6, none, none}},
		{"H, slower", with(haulH(), trip(3, 7)), 1, told{ones(3), 2, ones(3), 0, none, 0, nil, false, 1, 6, 1, low}},
		{"no job", allThere(), 20, told{nil, 1, nil, 0, none, 0, nil, true, 1, 20, 0, low}},
		{"no call", jobsAt(0, 1, 1), 1, told{nil, 1, nil, 0, none, 0, nil, true, 1, 20, 0, low}},
		{"three and one", three, 2, told{ones(4), 5, ones(4), 0, none, 0, ints{1, 2, 1}, true, 1, 5, 2, low}},
		{"three and one", three, 5, told{ints{1, 2, 1}, 2, ints{1, 2, 1}, 0, none, 0, ints{1, 2, 1}, true, 2, 5, 6, low}},
		{"three and one", three, 6, told{nil, 0, ints{1, 2, 1}, 2, 3, 2, ints{1, 2, 1}, true, 3, 5, 8, none}},
		{"three and one", three, 7, told{nil, 0, ints{1, 2, 1}, 4, 0, 1, ints{1, 2, 1}, true, none, 5, 10, none}},
		{"in a row", five, 2, told{ints{1, 1, 2, 1}, 2, ints{1, 1, 2, 1}, 0, none, 0, nil, false, 1, 2, 3, low}},
		{"in a row", five, 4, told{nil, 0, ints{1, 3, 1}, 2, 0, 1, nil, false, none, 2, 5, none}},
		{"no notice", jobsAt(0, 1, 1, 50), 1, told{nil, 0, ints{1}, 1, 0, 1, nil, false, none, none, 1, none}},
		{"four at once", jobsAt(30, 1, 1, 0, 0, 0, 0), 20, told{nil, 0, ones(4), 50, 1, 10, ones(4), true, 4, 7, none, none}},
		{"four at once, four barrows", jobsAt(30, 1, 4, 0, 0, 0, 0), 20, told{ones(4), 1, ones(4), 0, none, 0, ones(4), true, 4, 20, 20, low}},
		{"five at once, four barrows", jobsAt(30, 1, 4, 0, 0, 0, 0, 0), 20, told{nil, 0, ones(5), 10, 4, 10, ones(5), true, none, 15, none, none}},
		{"eight at once", eight, 10, told{ints{2, 3, 3}, 3, ints{2, 3, 3}, 0, none, 0, ints{1, 1, 1, 1, 1, 3}, true, 1, 10, 30, low}},
		{"eight at once", eight, 11, told{nil, 0, ints{2, 3, 3}, 3, 5, 3, ints{1, 1, 1, 1, 1, 3}, true, 2, 10, none, none}},
		{"RuleStale", stale(), 5, told{nil, 0, ints{1, 1}, 5, 2, 5, ones(2), false, 2, 2, 10, api.RuleStale}},
		{"RuleOld", old(), 5, told{nil, 0, ints{1, 1}, 5, 1, 5, ones(2), false, 2, 2, 10, api.RuleOld}},
	} {
		tells(t, fmt.Sprint(": ", x.what, " ", x.minutes), x.h, x.minutes, x.told)
	}
}

// tells reports what is not said of the haul as it should be.
func tells(t *testing.T, what string, h api.Haul, minutes int, x told) {
	t.Helper()
	due := func(is bool) api.Errno {
		if is {
			return api.OK
		}
		return api.ErrEmpty
	}
	number := func(name, got string, n int) {
		t.Helper()
		says(t, name+what, got, max(n, 0), due(n != none))
	}
	says(t, "Plan"+what, fmt.Sprint(barrow.Plan(h, minutes)), x.plan, due(x.count > 0))
	says(t, "Count"+what, fmt.Sprint(barrow.Count(h, minutes)), x.count, api.OK)
	says(t, "Best"+what, fmt.Sprint(barrow.Best(h, minutes)), x.best, x.late, api.OK)
	says(t, "First"+what, fmt.Sprint(barrow.First(h, minutes)), max(x.call, 0), x.by, due(x.call != none))
	if !x.isSure {
		x.sure = nil
	}
	says(t, "Sure"+what, fmt.Sprint(barrow.Sure(h)), x.sure, due(x.isSure))
	number("Fewest", fmt.Sprint(barrow.Fewest(h, minutes)), x.fewest)
	number("Slowest", fmt.Sprint(barrow.Slowest(h)), x.slowest)
	number("Notice", fmt.Sprint(barrow.Notice(h, minutes)), x.notice)
	number("Rule", fmt.Sprint(barrow.Rule(h, minutes)), x.rule)
}

// R2, R4, R6: a call depends on its arguments alone, and changes none of them.
func TestAgain(t *testing.T) {
	row := jobsAt(9, 3, 2, 0, 1, 1, 3, 4, 6, 6, 9)
	for _, x := range []args{ordinary(), {with(row, trip(1, 20)), ints{1, 1, 2, 3, 1}, 5}} {
		roomy := func(l ints) ints { return append(make(ints, 0, 12), l...) }
		a := x
		a.plan = roomy(x.plan)
		a.h = with(x.h, func(h *api.Haul) {
			h.Truth, h.Times = roomy(h.Truth), roomy(h.Times)
			h.Vault.Start, h.Vault.Calls = roomy(h.Vault.Start), append(make([]ints, 0, 12), h.Vault.Calls...)
			for call, l := range h.Vault.Calls {
				h.Vault.Calls[call] = roomy(l)
			}
		})
		before := a.results()
		var group sync.WaitGroup
		for range 4 {
			group.Go(func() {
				for range 20 {
					if again := a.results(); !maps.Equal(again, before) {
						t.Errorf("%v; before %v", again, before)
					}
				}
			})
		}
		group.Wait()
		if !reflect.DeepEqual(a, x) {
			t.Error("arguments are changed:", a)
		}
		for _, l := range append([]ints{a.plan, a.h.Truth, a.h.Times, a.h.Vault.Start}, a.h.Vault.Calls...) {
			if behind := l[len(l):12]; !slices.Equal(behind, make(ints, len(behind))) {
				t.Error("what is behind arguments is changed:", behind)
			}
		}
		if behind := a.h.Vault.Calls[len(a.h.Vault.Calls):12]; slices.ContainsFunc(behind, func(l ints) bool { return l != nil }) {
			t.Error("what is behind the calls is changed:", behind)
		}
	}
}

// R4: no result shares memory with an argument, or another result.
func TestMemory(t *testing.T) {
	a := ordinary()
	a.minutes = 5
	before := a.results()
	jobs, _ := barrow.Jobs(a.h)
	again, _ := barrow.Jobs(a.h)
	late, _ := barrow.Late(a.h, a.plan, a.minutes)
	plan, _ := barrow.Plan(a.h, a.minutes)
	sure, _ := barrow.Sure(a.h)
	best, _, _ := barrow.Best(a.h, a.minutes)
	lists := []ints{jobs, again, late, plan, sure, best}
	for i, l := range lists {
		for k := range l {
			l[k] = -7 - i
		}
		_ = append(l, -8)
	}
	for i, l := range lists {
		if len(l) == 0 || slices.Min(l) != -7-i || slices.Max(l) != -7-i {
			t.Error("results share memory:", lists)
		}
	}
	one, _ := barrow.Drive(a.h, a.plan, a.minutes)
	two, _ := barrow.Drive(a.h, a.plan, a.minutes)
	clear(one)
	if len(two) != 3 || slices.Contains(two, api.Ride{}) {
		t.Error("rides share memory:", one, two)
	}
	same := ordinary()
	same.minutes = 5
	if again := a.results(); !maps.Equal(again, before) || !reflect.DeepEqual(a, same) {
		t.Errorf("%v; before %v", again, before)
	}
}

// R4: a nil slice and an empty one mean the same.
func TestNothing(t *testing.T) {
	empty := with(jobsAt(5, 1, 1), func(h *api.Haul) {
		h.Truth, h.Times, h.Vault.Calls = ints{}, ints{}, []ints{}
	})
	unset := with(jobsAt(5, 1, 1), func(h *api.Haul) { h.Truth, h.Times, h.Vault.Calls = nil, nil, nil })
	start := func(start ints) api.Haul {
		return with(haulH(), func(h *api.Haul) { h.Vault.Start = start })
	}
	for _, x := range [][2]args{
		{{unset, nil, 5}, {empty, ints{}, 5}},
		{{haulH(), nil, 5}, {haulH(), ints{}, 5}},
		{{start(nil), ints{2, 1}, 5}, {start(ints{}), ints{2, 1}, 5}},
		{{with(haulH(), timed()), nil, 5}, {with(haulH(), timed(ints{}...)), nil, 5}},
	} {
		if a, b := x[0].results(), x[1].results(); !maps.Equal(a, b) {
			t.Error(a, b)
		}
	}
}

// P1, R5: whatever the arguments are, a function returns, with zero values beside an error.
func TestAnything(t *testing.T) {
	rng := rand.New(rand.NewPCG(6, 7))
	odd := ints{math.MinInt, math.MinInt + 1, -31, -1, 0, 1, 2, 3, 4, 5, 8, 9, 20, 21, 30, 31, 99, 100, 1 << 32, math.MaxInt - 1, math.MaxInt}
	some := func() int { return odd[rng.IntN(len(odd))] }
	blank := map[string][]string{} // what a function may say if there is an error
	for e := api.OK + 1; e <= api.ErrClosed; e++ {
		for name, text := range refusals(e) {
			blank[name] = append(blank[name], text)
		}
	}
	draws(4000, 5, func(_ *rand.Rand, h api.Haul, minutes int) {
		a := args{h, planOf(rng, h), minutes}
		for range rng.IntN(3) {
			switch rng.IntN(9) {
			case 0:
				a.plan = longer(a.plan, some())
			case 1:
				a.minutes = some()
			case 2:
				a.h.Vault.Places, a.h.Vault.Pieces = some(), some()
			case 3:
				a.h.Vault.Start = longer(a.h.Vault.Start, some())
			case 4:
				a.h.Truth, a.h.Times = longer(a.h.Truth, 0), longer(a.h.Times, some())
				a.h.Vault.Calls = append(slices.Clone(a.h.Vault.Calls), ints{0})
			case 5:
				a.h.Rule = some()
			case 6:
				a.h.Notice, a.h.Load = some(), 1+rng.IntN(3)
			case 7:
				a.h.Load, a.h.Barrows = some(), some()
			case 8:
				a.h.Trip = band(some(), some())
			}
		}
		for name, text := range a.results() {
			if !strings.HasSuffix(text, fmt.Sprint(api.OK)) && !slices.Contains(blank[name], text) {
				t.Fatalf("%s of %v: %s", name, a, text)
			}
		}
	})
	long := make(ints, 1<<20)
	refused(t, "a long truth", args{h: with(haulH(), func(h *api.Haul) { h.Truth = long })}, api.ErrMany, names()...)
	refused(t, "long times", args{h: with(haulH(), timed(long...))}, api.ErrMany, names()...)
	refused(t, "a long plan", args{haulH(), slices.Repeat(ints{2}, 1<<20), 6}, api.ErrContrary, ofPlans()...)
	refused(t, "a long plan of nothing", args{haulH(), long, 6}, api.ErrAmount, ofPlans()...)
}

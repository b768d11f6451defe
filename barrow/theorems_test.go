package barrow_test

import (
	"fmt"
	"math/rand/v2"
	"slices"
	"testing"

	"gladstone/api"
	"gladstone/barrow"
	"gladstone/vault"
)

// sure returns a result that comes without an error.
func sure[T any](x T, e api.Errno) T {
	if e != api.OK {
		panic(e)
	}
	return x
}

// isIn returns whether a plan is in time.
func isIn(h api.Haul, plan ints, minutes int) bool {
	return latest(sure(barrow.Late(h, plan, minutes))) == 0
}

// can returns whether there is a plan in time.
func can(h api.Haul, minutes int) bool {
	_, e := barrow.Plan(h, minutes)
	return e == api.OK
}

// allPlans returns all plans of a haul, in lexicographic order.
func allPlans(h api.Haul) []ints { return plansOf(len(sure(barrow.Jobs(h))), h.Load) }

// P6.1: Jobs, Drive and Late, as the chapter says them.
func TestAllTrips(t *testing.T) {
	draws(6000, 8, func(rng *rand.Rand, h api.Haul, minutes int) {
		jobs, plan := jobsOf(h), planOf(rng, h)
		what := fmt.Sprint(" ", h, plan, minutes)
		says(t, "Check"+what, fmt.Sprint(barrow.Check(h)), api.OK)
		says(t, "Jobs"+what, fmt.Sprint(barrow.Jobs(h)), jobs, api.OK)
		says(t, "Drive"+what, fmt.Sprint(barrow.Drive(h, plan, minutes)), ridesOf(h, jobs, plan, minutes), api.OK)
		says(t, "Late"+what, fmt.Sprint(barrow.Late(h, plan, minutes)), lateOf(h, jobs, plan, minutes), api.OK)
		says(t, "Verdict"+what, fmt.Sprint(barrow.Verdict(h, plan)), verdictOf(h, plan), api.OK)
		if t.Failed() {
			t.FailNow()
		}
	})
}

// P6.2 to P6.6, P6.9: what all plans say.
func TestAllPlans(t *testing.T) {
	for _, calls := range []int{4, 6, 8} {
		draws(400, calls, func(rng *rand.Rand, h api.Haul, minutes int) {
			tells(t, fmt.Sprint(" ", h, minutes), h, minutes, tellOf(h, minutes))
			if t.Failed() {
				t.FailNow()
			}
		})
	}
}

// P6.7: jobs.
func TestAsFetched(t *testing.T) {
	draws(3000, 8, func(rng *rand.Rand, h api.Haul, minutes int) {
		jobs := sure(barrow.Jobs(h))
		choice, fetched, e := vault.Run(h.Vault, h.Truth, h.Rule)
		if e != api.OK || fetched != len(jobs) || !slices.IsSorted(jobs) {
			t.Fatal(h, jobs, fetched, e)
		}
		in := h.Vault.Start
		for call, piece := range h.Truth {
			if slices.Contains(in, piece) == slices.Contains(jobs, call) {
				t.Fatal(h, jobs, call, in)
			}
			in = longer(without(without(in, choice[call]), piece), piece)
		}
	})
}

// P6.8, P6.17: rides, one barrow.
func TestRides(t *testing.T) {
	draws(3000, 8, func(rng *rand.Rand, h api.Haul, minutes int) {
		plan, jobs := planOf(rng, h), sure(barrow.Jobs(h))
		made, done := sure(barrow.Drive(h, plan, minutes)), 0
		if len(made) != len(plan) {
			t.Fatal("trips", h, plan, made)
		}
		for i, r := range made {
			done += plan[i]
			known := h.Times[jobs[done-1]] - h.Notice
			before := slices.DeleteFunc(slices.Clone(made[:i]), func(b api.Ride) bool { return b.Barrow != r.Barrow })
			free := func(minute int) bool { // whether any barrow is back
				away := slices.DeleteFunc(slices.Clone(made[:i]), func(b api.Ride) bool { return b.Back <= minute })
				return len(away) < h.Barrows
			}
			switch {
			case r.Barrow < 0 || r.Barrow >= h.Barrows || r.Back != r.Out+minutes || r.Out < known:
				t.Fatal("ride", h, plan, made, i)
			case slices.ContainsFunc(before, func(b api.Ride) bool { return b.Back > r.Out }):
				t.Fatal("two trips at a time", h, plan, made, i)
			case r.Out > known && free(r.Out-1):
				t.Fatal("waits", h, plan, made, i)
			case h.Barrows == 1 && i > 0 && r.Out != max(known, made[i-1].Back) || i == 0 && r.Out != known:
				t.Fatal("one barrow", h, plan, made, i)
			}
		}
	})
}

// P6.10: faster.
func TestFaster(t *testing.T) {
	draws(4000, 8, func(rng *rand.Rand, h api.Haul, minutes int) {
		plan := planOf(rng, h)
		if !isIn(h, plan, minutes) {
			return
		}
		fast := 1 + rng.IntN(minutes)
		more := withBarrows(h, h.Barrows+rng.IntN(api.BarrowMost-h.Barrows+1))
		earlier := withNotice(h, h.Notice+rng.IntN(api.BarrowNotice-h.Notice+1))
		if !isIn(h, plan, fast) || !isIn(more, plan, minutes) || !isIn(earlier, plan, minutes) {
			t.Fatal(h, plan, minutes, fast, more, earlier)
		}
	})
}

// P6.11: fewest.
func TestFewest(t *testing.T) {
	draws(1500, 8, func(rng *rand.Rand, h api.Haul, minutes int) {
		barrows, e := barrow.Fewest(h, minutes)
		for n := 1; n <= api.BarrowMost; n++ {
			if enough := e == api.OK && n >= barrows; enough != can(withBarrows(h, n), minutes) {
				t.Fatal("Fewest", h, minutes, barrows, e, n)
			}
		}
		slowest, e := barrow.Slowest(h)
		for n := 1; n <= api.BarrowTrip; n++ {
			if enough := e == api.OK && n <= slowest; enough != can(h, n) {
				t.Fatal("Slowest", h, slowest, e, n)
			}
		}
		notice, e := barrow.Notice(h, minutes)
		for n := range api.BarrowNotice + 1 {
			if enough := e == api.OK && n >= notice; enough != can(withNotice(h, n), minutes) {
				t.Fatal("Notice", h, minutes, notice, e, n)
			}
		}
	})
}

// P6.12: first.
func TestFirst(t *testing.T) {
	draws(3000, 8, func(rng *rand.Rand, h api.Haul, minutes int) {
		best, most, e := barrow.Best(h, minutes)
		late := sure(barrow.Late(h, best, minutes))
		if e != api.OK || latest(late) != most {
			t.Fatal("Best", h, minutes, best, most, late)
		}
		call, by, e := barrow.First(h, minutes)
		if is := e == api.OK; is == can(h, minutes) || is == (most == 0) {
			t.Fatal("First", h, minutes, call, by, e)
		}
		for i, job := range sure(barrow.Jobs(h)) {
			if late[i] > 0 {
				if job != call || late[i] != by {
					t.Fatal("First", h, minutes, call, by, late)
				}
				break
			}
		}
		for _, plan := range allPlans(h) {
			n := latest(sure(barrow.Late(h, plan, minutes)))
			if n < most || n == most && slices.Compare(plan, best) < 0 {
				t.Fatal("Best", h, minutes, best, most, plan, n)
			}
		}
	})
}

// P6.13: alone.
func TestAlone(t *testing.T) {
	draws(4000, 8, func(rng *rand.Rand, h api.Haul, minutes int) {
		h = withBarrows(h, api.BarrowMost)
		jobs := len(sure(barrow.Jobs(h)))
		if jobs > 0 && jobs <= h.Barrows && can(h, minutes) != (h.Notice >= minutes) {
			t.Fatal(h, minutes)
		}
	})
}

// P6.14: load.
func TestLoad(t *testing.T) {
	draws(3000, 8, func(rng *rand.Rand, h api.Haul, minutes int) {
		if h.Load == api.BarrowLoad {
			return
		}
		more := with(h, func(h *api.Haul) { h.Load++ })
		if a, b := sure(barrow.Count(h, minutes)), sure(barrow.Count(more, minutes)); b < a {
			t.Fatal(h, minutes, a, b)
		}
	})
}

// P6.15: later.
func TestLater(t *testing.T) {
	draws(1500, 8, func(rng *rand.Rand, h api.Haul, minutes int) {
		if len(h.Times) == 0 {
			return
		}
		more := rng.IntN(api.BarrowTime - slices.Max(h.Times) + 1)
		later := with(h, func(h *api.Haul) {
			for call := range h.Times {
				h.Times[call] += more
			}
		})
		plan := planOf(rng, h)
		a, b := args{h, plan, minutes}.results(), args{later, plan, minutes}.results()
		for _, name := range names() {
			if name != "Drive" && a[name] != b[name] {
				t.Fatal(name, h, later, plan, minutes, a[name], b[name])
			}
		}
		made := sure(barrow.Drive(h, plan, minutes))
		for i := range made {
			made[i].Out, made[i].Back = made[i].Out+more, made[i].Back+more
		}
		if !slices.Equal(made, sure(barrow.Drive(later, plan, minutes))) {
			t.Fatal("Drive", h, later, plan, minutes)
		}
	})
}

// P6.16: rule.
func TestRule(t *testing.T) {
	draws(3000, 8, func(rng *rand.Rand, h api.Haul, minutes int) {
		rule, e := barrow.Rule(h, minutes)
		last := rule
		if e != api.OK {
			last = api.RuleLate + 1
		}
		for n := range last {
			if can(withRule(h, n), minutes) {
				t.Fatal("before", h, minutes, rule, e, n)
			}
		}
		if e == api.OK && !can(withRule(h, rule), minutes) {
			t.Fatal("with it", h, minutes, rule)
		}
		if len(sure(barrow.Jobs(h))) == 0 && (len(sure(barrow.Plan(h, minutes))) > 0 || len(sure(barrow.Drive(h, nil, minutes))) > 0) {
			t.Fatal("no trip", h, minutes)
		}
	})
}

// P6.18: verdict.
func TestSlowestTrip(t *testing.T) {
	draws(3000, 8, func(rng *rand.Rand, h api.Haul, minutes int) {
		for _, plan := range []ints{allPlans(h)[0], planOf(rng, h)} {
			verdict := sure(barrow.Verdict(h, plan))
			slow, fast := isIn(h, plan, h.Trip.Max), isIn(h, plan, h.Trip.Min)
			if (verdict == api.Always) != slow || (verdict == api.NoWay) == fast || verdict == api.Perhaps && (slow || !fast) {
				t.Fatal(h, plan, verdict)
			}
		}
		first, e := barrow.Sure(h)
		slow, x := barrow.Plan(h, h.Trip.Max)
		if e != x || !slices.Equal(first, slow) {
			t.Fatal("Sure", h, first, e, slow, x)
		}
	})
}

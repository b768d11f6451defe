package barrow_test

import (
	"math"
	"math/rand/v2"
	"slices"

	"gladstone/api"
)

type (
	ints  = []int
	rides = []api.Ride
)

func band(a, b int) api.Band { return api.Band{Min: a, Max: b} }

// haulH is H of the chapter's examples.
func haulH() api.Haul {
	return api.Haul{
		Vault: api.Vault{Places: 2, Pieces: 4, Start: ints{0, 1}, Calls: []ints{{2}, {0}, {1, 3}, {0}}},
		Truth: ints{2, 0, 1, 0}, Rule: api.RuleOld, Times: ints{10, 12, 20, 30},
		Notice: 8, Load: 2, Barrows: 1, Trip: band(3, 6),
	}
}

// jobsAt returns a haul with a job at each of the minutes: two pieces are asked for in turn, and there is one place.
func jobsAt(notice, load, barrows int, times ...int) api.Haul {
	h := api.Haul{
		Vault: api.Vault{Places: 1, Pieces: 2, Start: ints{0}},
		Times: times, Notice: notice, Load: load, Barrows: barrows, Trip: band(2, 5),
	}
	for call := range times {
		h.Truth = longer(h.Truth, 1-call%2)
		h.Vault.Calls = append(h.Vault.Calls, ints{1 - call%2})
	}
	return h
}

// with returns a copy of a haul with a change.
func with(h api.Haul, change func(h *api.Haul)) api.Haul {
	h.Vault.Start, h.Vault.Calls = slices.Clone(h.Vault.Start), slices.Clone(h.Vault.Calls)
	for call, l := range h.Vault.Calls {
		h.Vault.Calls[call] = slices.Clone(l)
	}
	h.Truth, h.Times = slices.Clone(h.Truth), slices.Clone(h.Times)
	change(&h)
	return h
}

func withBarrows(h api.Haul, barrows int) api.Haul {
	return with(h, func(h *api.Haul) { h.Barrows = barrows })
}

func withNotice(h api.Haul, notice int) api.Haul {
	return with(h, func(h *api.Haul) { h.Notice = notice })
}

func withRule(h api.Haul, rule int) api.Haul {
	return with(h, func(h *api.Haul) { h.Rule = rule })
}

// longer returns a new list with one number more.
func longer(l ints, n int) ints { return append(slices.Clone(l), n) }

// without returns the list without the number.
func without(l ints, n int) ints {
	return slices.DeleteFunc(slices.Clone(l), func(m int) bool { return m == n })
}

// jobsOf returns the calls at which a piece is fetched.
func jobsOf(h api.Haul) ints {
	came, used := slices.Clone(h.Vault.Start), slices.Clone(h.Vault.Start) // as they came, and as they were asked for
	var jobs ints
	for call, piece := range h.Truth {
		if !slices.Contains(came, piece) {
			if len(came) == h.Vault.Places {
				sent := sentBy(h.Rule, came, used, h.Truth[call+1:])
				came, used = without(came, sent), without(used, sent)
			}
			came, jobs = longer(came, piece), longer(jobs, call)
		}
		used = longer(without(used, piece), piece)
	}
	return jobs
}

// sentBy returns the piece that a rule sends.
func sentBy(rule int, came, used, rest ints) int {
	switch rule {
	case api.RuleLow:
		return slices.Min(came)
	case api.RuleOld:
		return came[0]
	case api.RuleStale:
		return used[0]
	}
	left := slices.Sorted(slices.Values(came))
	for _, piece := range rest {
		if len(left) > 1 {
			left = without(left, piece)
		}
	}
	return left[0]
}

// ridesOf looks minute by minute whether a barrow goes out.
func ridesOf(h api.Haul, jobs, plan ints, minutes int) rides {
	var out rides
	back, done := slices.Repeat(ints{math.MinInt}, h.Barrows), 0
	for minute := -100; len(out) < len(plan); {
		barrow := slices.Index(back, slices.Min(back))
		last := done + plan[len(out)] - 1
		if back[barrow] > minute || h.Times[jobs[last]] > minute+h.Notice {
			minute++
			continue
		}
		back[barrow], done = minute+minutes, last+1
		out = append(out, api.Ride{Barrow: barrow, Out: minute, Back: minute + minutes})
	}
	return out
}

// lateOf returns by how many minutes each job is late.
func lateOf(h api.Haul, jobs, plan ints, minutes int) ints {
	var late ints
	for i, r := range ridesOf(h, jobs, plan, minutes) {
		for range plan[i] {
			due := h.Times[jobs[len(late)]]
			if r.Back < due {
				late = longer(late, 0)
			} else {
				late = longer(late, r.Back-due)
			}
		}
	}
	return late
}

// latest returns the greatest number; 0 if there is none.
func latest(late ints) int { return slices.Max(longer(late, 0)) }

func sum(l ints) int {
	n := 0
	for _, x := range l {
		n += x
	}
	return n
}

// made are the plans that were made already, by the numbers of jobs and the load.
var made = map[[2]int][]ints{}

// plansOf returns all plans, in lexicographic order: of all lists those that do all jobs.
func plansOf(jobs, load int) []ints {
	key := [2]int{jobs, load}
	if plans, is := made[key]; is {
		return plans
	}
	var plans []ints
	for all, long := []ints{{}}, 0; long <= jobs; long++ {
		var more []ints
		for _, l := range all {
			if sum(l) == jobs {
				plans = append(plans, l)
			}
			for n := 1; n <= load; n++ {
				more = append(more, longer(l, n))
			}
		}
		all = more
	}
	slices.SortFunc(plans, slices.Compare)
	made[key] = plans
	return plans
}

// verdictOf returns the verdict on a plan.
func verdictOf(h api.Haul, plan ints) int {
	some, all := false, true
	for minutes := h.Trip.Min; minutes <= h.Trip.Max; minutes++ {
		is := latest(lateOf(h, jobsOf(h), plan, minutes)) == 0
		some, all = some || is, all && is
	}
	switch {
	case all:
		return api.Always
	case some:
		return api.Perhaps
	}
	return api.NoWay
}

// inTime returns the plans that are in time, in lexicographic order.
func inTime(h api.Haul, minutes int) []ints {
	var plans []ints
	jobs := jobsOf(h)
	for _, plan := range plansOf(len(jobs), h.Load) {
		if latest(lateOf(h, jobs, plan, minutes)) == 0 {
			plans = append(plans, plan)
		}
	}
	return plans
}

// none stands for a number that there is not.
const none = -1

// told is what all plans of a haul say, if a trip takes so many minutes.
type told struct {
	plan                          ints // if count is above 0
	count                         int
	best                          ints
	late                          int
	call                          int // none if no job is late
	by                            int
	sure                          ints
	isSure                        bool
	fewest, slowest, notice, rule int // none if there is none
}

// tellOf returns what all plans of the haul say.
func tellOf(h api.Haul, minutes int) told {
	jobs, punctual := jobsOf(h), inTime(h, minutes)
	x := told{count: len(punctual), call: none, fewest: none, slowest: none, notice: none, rule: none}
	if x.count > 0 {
		x.plan = punctual[0]
	}
	late := func(plan ints) ints { return lateOf(h, jobs, plan, minutes) }
	plans := plansOf(len(jobs), h.Load)
	x.best = slices.MinFunc(plans, func(a, b ints) int { return latest(late(a)) - latest(late(b)) })
	x.late = latest(late(x.best))
	if i := slices.IndexFunc(late(x.best), func(n int) bool { return n > 0 }); i >= 0 {
		x.call, x.by = jobs[i], late(x.best)[i]
	}
	for _, plan := range slices.Backward(plans) {
		if verdictOf(h, plan) == api.Always {
			x.sure, x.isSure = plan, true
		}
	}
	for n := api.BarrowMost; n >= 1; n-- {
		if len(inTime(withBarrows(h, n), minutes)) > 0 {
			x.fewest = n
		}
	}
	for n := 1; n <= api.BarrowTrip; n++ {
		if len(inTime(h, n)) > 0 {
			x.slowest = n
		}
	}
	for n := api.BarrowNotice; n >= 0; n-- {
		if len(inTime(withNotice(h, n), minutes)) > 0 {
			x.notice = n
		}
	}
	for n := api.RuleLate; n >= api.RuleLow; n-- {
		if len(inTime(withRule(h, n), minutes)) > 0 {
			x.rule = n
		}
	}
	return x
}

// drawn returns a valid haul of at most so many calls, and minutes of a trip.
// Minutes are often few, so that there are plans in time, and others.
func drawn(rng *rand.Rand, calls int) (api.Haul, int) {
	few := func(most int) int { return min(rng.IntN(most+1), rng.IntN(most+1), rng.IntN(most+1)) }
	v := api.Vault{Places: 1 + few(api.VaultPlaces-1), Pieces: 1 + rng.IntN(api.VaultPieces)}
	v.Start = rng.Perm(v.Pieces)[:min(v.Places, v.Pieces)]
	v.Start = v.Start[:len(v.Start)-few(len(v.Start))]
	h := api.Haul{Rule: rng.IntN(4), Load: 1 + rng.IntN(api.BarrowLoad), Barrows: 1 + few(api.BarrowMost-1)}
	last := 1 + few(api.BarrowTime)
	for range calls - few(calls) {
		l := rng.Perm(v.Pieces)[:1+rng.IntN(v.Pieces)]
		h.Truth = longer(h.Truth, l[0])
		v.Calls = append(v.Calls, slices.Sorted(slices.Values(l)))
		h.Times = longer(h.Times, rng.IntN(last+1))
	}
	slices.Sort(h.Times)
	h.Vault = v
	h.Trip.Min = 1 + few(api.BarrowTrip-1)
	h.Trip.Max = h.Trip.Min + few(api.BarrowTrip-h.Trip.Min)
	minutes := 1 + few(api.BarrowTrip-1)
	h.Notice = min(api.BarrowNotice, max(0, minutes+rng.IntN(8)-2))
	if rng.IntN(3) == 0 {
		h.Notice = rng.IntN(api.BarrowNotice + 1)
	}
	return h, minutes
}

// draws calls try with many valid hauls and minutes of a trip, always the same ones.
func draws(count, calls int, try func(rng *rand.Rand, h api.Haul, minutes int)) {
	rng := rand.New(rand.NewPCG(6, uint64(count)))
	for range count {
		h, minutes := drawn(rng, calls)
		try(rng, h, minutes)
	}
}

// planOf returns a plan of a haul.
func planOf(rng *rand.Rand, h api.Haul) ints {
	plans := plansOf(len(jobsOf(h)), h.Load)
	return plans[rng.IntN(len(plans))]
}

package barrow

import (
	"iter"

	"gladstone/api"
)

// before is a minute at which no call can be known yet.
const before = -api.BarrowNotice - 1

// barrows is the minute at which each barrow is back.
type barrows [api.BarrowMost]int

// start returns the barrows if all are there.
func (h haul) start() barrows {
	var there barrows
	for barrow := range h.Barrows {
		there[barrow] = before
	}
	return there
}

// next returns the barrow that is back first.
func (h haul) next(there barrows) int {
	soonest := least[int]{of: func(barrow int) int { return there[barrow] }}
	barrow := 0
try:
	soonest.show(barrow)
	barrow++
	if barrow < h.Barrows {
		goto try
	}
	return soonest.kept
}

// noLater returns whether no barrow is back later than it is by the other ones.
func (b barrows) noLater(other barrows) bool {
	for barrow, back := range b {
		if back > other[barrow] {
			return false
		}
	}
	return true
}

// trip is the ride of a barrow, and the jobs that it does.
type trip struct {
	ride api.Ride
	jobs []job
}

func (t trip) made() trip { return t }

// delay is by how many minutes a call is late.
type delay struct{ call, minutes int }

func (d delay) isLate() bool { return d.minutes > 0 }

// delays returns by how many minutes the jobs of the trip are late.
func (t trip) delays() []delay {
	var all []delay
	for _, j := range t.jobs {
		all = append(all, delay{j.call, max(0, t.ride.Back-j.due)})
	}
	return all
}

// outcome is what becomes of a trip.
type outcome interface{ made() trip }

type (
	punctual struct{ trip }
	late     struct {
		trip
		by int // the minutes by which its latest job is late
	}
)

// send sends a barrow out for the jobs. It returns when the barrows are back
// then, and what becomes of the trip.
func (h haul) send(there barrows, jobs []job) (barrows, outcome) {
	barrow := h.next(there)
	out := max(there[barrow], jobs[len(jobs)-1].known)
	there[barrow] = out + h.minutes
	made := trip{api.Ride{Barrow: barrow, Out: out, Back: there[barrow]}, jobs}
	if by := there[barrow] - jobs[0].due; by > 0 { // no job is due before the first one
		return there, late{made, by}
	}
	return there, punctual{made}
}

// cut returns so many jobs, from the first one that is not done yet.
func (h haul) cut(done, load int) []job { return h.jobs[done : done+load : done+load] }

// trips goes through what becomes of the trips of a plan.
func (h haul) trips(plan []int) iter.Seq[outcome] {
	return func(yield func(outcome) bool) {
		there, done := h.start(), 0
		for _, load := range plan {
			after, became := h.send(there, h.cut(done, load))
			if !yield(became) {
				return
			}
			there, done = after, done+load
		}
	}
}

// delays returns by how many minutes all jobs are late by a plan.
func (h haul) delays(plan []int) []delay {
	var all []delay
	for became := range h.trips(plan) {
		all = join(all, became.made().delays())
	}
	return all
}

// latest returns by how many minutes the latest job is late by a plan.
func (h haul) latest(plan []int) int {
	most := 0
	for became := range h.trips(plan) {
		switch t := became.(type) {
		case late:
			most = max(most, t.by)
		}
	}
	return most
}

package barrow

import (
	"gladstone/api"
	"gladstone/vault"
)

// job is a call at which a piece is fetched, the minute at which it is due, and
// the one at which it is known.
type job struct{ call, due, known int }

// haul is a haul at work, if a trip takes so many minutes.
type haul struct {
	api.Haul
	minutes int
	jobs    []job
}

// part is a part of a haul at work that can be changed.
type part int

const (
	theMinutes part = iota
	theBarrows
	theNotice
	theRule
)

// with returns the haul with another number for a part of it.
func (h haul) with(changed part, number int) haul {
	switch changed {
	case theMinutes:
		h.minutes = number
	case theBarrows:
		h.Barrows = number
	case theRule:
		h.Rule, number = number, h.Notice
		fallthrough // the jobs are others, as they are with another notice
	case theNotice:
		h.Notice = number
		h.jobs = jobsOf(h.Haul)
	}
	return h
}

// jobsOf returns the jobs of a valid haul.
func jobsOf(h api.Haul) []job {
	sent, _, _ := vault.Run(h.Vault, h.Truth, h.Rule)
	in := map[int]bool{}
	for _, piece := range h.Vault.Start {
		in[piece] = true
	}
	var jobs []job
	for call, piece := range h.Truth {
		if in[piece] {
			continue
		}
		delete(in, sent[call]) // if none is sent, this is no piece, and takes off nothing
		in[piece] = true
		due := h.Times[call]
		jobs = append(jobs, job{call, due, due - h.Notice})
	}
	return jobs
}

// open returns the haul at work, or its first error.
func open(given api.Haul) (haul, api.Errno) {
	if e := checkHaul(given); e != api.OK {
		return haul{}, e
	}
	return haul{Haul: given}.with(theRule, given.Rule), api.OK
}

// openTrips returns the haul at work if a trip takes so many minutes, or the first error.
func openTrips(given api.Haul, minutes int) (haul, api.Errno) {
	work, e := open(given)
	if e != api.OK {
		return haul{}, e
	}
	return work.timed(minutes)
}

// openPlan returns the haul at work, or the first error of it or of the plan.
func openPlan(given api.Haul, plan []int) (haul, api.Errno) {
	work, e := open(given)
	if e != api.OK {
		return haul{}, e
	}
	if err := work.checkPlan(plan); err != nil {
		return haul{}, code(err)
	}
	return work, api.OK
}

// openDrive is openPlan and openTrips, in this order.
func openDrive(given api.Haul, plan []int, minutes int) (haul, api.Errno) {
	work, e := openPlan(given, plan)
	if e != api.OK {
		return haul{}, e
	}
	return work.timed(minutes)
}

// timed returns the haul if a trip takes so many minutes; ErrAmount if it cannot.
func (h haul) timed(minutes int) (haul, api.Errno) {
	if e := checkMinutes(minutes); e != api.OK {
		return haul{}, e
	}
	return h.with(theMinutes, minutes), api.OK
}

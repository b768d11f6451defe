package barrow

import (
	"slices"

	"gladstone/api"
)

// trial is whether something is so if a trip takes so many minutes.
type trial struct {
	minutes int
	so      bool
}

// tried returns with which numbers of minutes it is so. All are tried side by side.
func (h haul) tried(minutes api.Band, is func(haul) bool) []int {
	left := minutes.Max - minutes.Min + 1
	trials, end := make(chan trial, left), make(chan struct{})
	for more := range left {
		go func() {
			number := minutes.Min + more
			trials <- trial{number, is(h.with(theMinutes, number))}
		}()
	}
	var so []int
	for {
		select {
		case t := <-trials:
			if t.so {
				so = append(so, t.minutes)
			}
			left--
			if left == 0 { // not before, so that there is never a choice
				close(end)
			}
		case <-end:
			slices.Sort(so)
			return so
		}
	}
}

// verdict returns whether the plan is in time within Trip.
func (h haul) verdict(plan []int) int {
	so := h.tried(h.Trip, func(h haul) bool { return h.latest(plan) == 0 })
	switch len(so) {
	case h.Trip.Max - h.Trip.Min + 1:
		return api.Always
	case 0:
		return api.NoWay
	}
	return api.Perhaps
}

// sure returns whether the plan is in time for all numbers of minutes within Trip.
func (h haul) sure(plan []int) bool { return h.verdict(plan) == api.Always }

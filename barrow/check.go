package barrow

import (
	"errors"

	"gladstone/api"
	"gladstone/vault"
)

// unfit is the error of a plan that is not valid.
type unfit struct{ code api.Errno }

func (u unfit) Error() string { return u.code.Error() }

// code returns the code of an error; OK if there is none.
func code(err error) api.Errno {
	var u unfit
	if errors.As(err, &u) {
		return u.code
	}
	return api.OK
}

func within(n, from, to int) bool { return from <= n && n <= to }

func checkHaul(h api.Haul) api.Errno {
	if _, _, e := vault.Run(h.Vault, h.Truth, h.Rule); e != api.OK {
		return e
	}
	if e := checkTimes(h.Times, len(h.Vault.Calls)); e != api.OK {
		return e
	}
	if !within(h.Notice, 0, api.BarrowNotice) || !within(h.Load, 1, api.BarrowLoad) || !within(h.Barrows, 1, api.BarrowMost) {
		return api.ErrAmount
	}
	if e := checkMinutes(h.Trip.Min, h.Trip.Max); e != api.OK {
		return e
	}
	if h.Trip.Min > h.Trip.Max {
		return api.ErrOrder
	}
	return api.OK
}

func checkTimes(times []int, calls int) api.Errno {
	if len(times) < calls {
		return api.ErrFew
	}
	if len(times) > calls {
		return api.ErrMany
	}
	before := 0
	for _, minute := range times {
		if !within(minute, 0, api.BarrowTime) {
			return api.ErrAmount
		}
		if minute < before {
			return api.ErrOrder
		}
		before = minute
	}
	return api.OK
}

func checkMinutes(numbers ...int) api.Errno {
	for _, minutes := range numbers {
		if !within(minutes, 1, api.BarrowTrip) {
			return api.ErrAmount
		}
	}
	return api.OK
}

// checkPlan returns the first error of a plan.
func (h haul) checkPlan(plan []int) error {
	done := 0
	for _, load := range plan {
		if !within(load, 1, h.Load) {
			return unfit{api.ErrAmount}
		}
		done += load
	}
	if done != len(h.jobs) {
		return unfit{api.ErrContrary}
	}
	return nil
}

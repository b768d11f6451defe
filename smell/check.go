package smell

import (
	"errors"

	"gladstone/api"
)

// invalid is the error of a nose that is not valid.
type invalid struct{ code api.Errno }

func (i invalid) Error() string { return "nose: " + i.code.Error() }

func (i invalid) Unwrap() error { return i.code }

// code returns the code of an error; OK if there is none.
func code(err error) api.Errno {
	var i invalid
	if errors.As(err, &i) {
		return i.code
	}
	return api.OK
}

func within(n, from, to int) bool { return from <= n && n <= to }

// demand is what is demanded of arguments, beside a smell. It returns the first error.
type demand func(given api.Smell) api.Errno

// refusal returns the first error of a smell, and of other arguments.
func refusal(given api.Smell, demands ...demand) api.Errno {
	for _, check := range append([]demand{checkPlaces, checkDoors, checkHampers, checkNoses}, demands...) {
		if e := check(given); e != api.OK {
			return e
		}
	}
	return api.OK
}

func checkPlaces(given api.Smell) api.Errno {
	return unless(within(given.Places, 1, api.SmellPlaces), api.ErrAmount)
}

func checkDoors(given api.Smell) api.Errno {
	if len(given.Doors) > api.SmellDoors {
		return api.ErrMany
	}
	for _, d := range given.Doors {
		if e := checkDoor(d, given.Places); e != api.OK {
			return e
		}
	}
	return api.OK
}

func checkDoor(d api.Door, places int) api.Errno {
	switch {
	case !within(d.A, 0, places-1) || !within(d.B, 0, places-1):
		return api.ErrUnknown
	case d.A == d.B:
		return api.ErrKind
	case !within(d.Takes.Min, 1, api.SmellTakes) || !within(d.Takes.Max, 1, api.SmellTakes):
		return api.ErrAmount
	case d.Takes.Min > d.Takes.Max:
		return api.ErrOrder
	}
	return api.OK
}

func checkHampers(given api.Smell) api.Errno {
	switch {
	case len(given.Hampers) == 0:
		return api.ErrFew
	case len(given.Hampers) > api.SmellHampers:
		return api.ErrMany
	}
	before := none
	for _, place := range given.Hampers {
		switch {
		case !within(place, 0, given.Places-1):
			return api.ErrUnknown
		case before.has(place):
			return api.ErrRepeat
		}
		before = before.with(place)
	}
	return api.OK
}

func checkNoses(given api.Smell) api.Errno {
	if len(given.Noses) > api.SmellNoses {
		return api.ErrMany
	}
	for _, n := range given.Noses {
		if e := code(checkNose(n, given.Places)); e != api.OK {
			return e
		}
	}
	return api.OK
}

func checkNose(n api.Nose, places int) error {
	switch {
	case !within(n.Place, 0, places-1):
		return invalid{api.ErrUnknown}
	case !within(n.Hour, 0, api.SmellHour):
		return invalid{api.ErrAmount}
	}
	return nil
}

// unless returns the error unless all is right.
func unless(right bool, e api.Errno) api.Errno {
	if right {
		return api.OK
	}
	return e
}

func isPlace(place int) demand {
	return func(given api.Smell) api.Errno {
		return unless(within(place, 0, given.Places-1), api.ErrUnknown)
	}
}

func isHamper(hamper int) demand {
	return func(given api.Smell) api.Errno {
		return unless(within(hamper, 0, len(given.Hampers)-1), api.ErrUnknown)
	}
}

func isHour(hour int) demand {
	return func(api.Smell) api.Errno { return unless(within(hour, 0, api.SmellHour), api.ErrAmount) }
}

func isNext(n api.Nose) demand {
	return func(given api.Smell) api.Errno {
		if len(given.Noses) == api.SmellNoses {
			return api.ErrMany
		}
		return code(checkNose(n, given.Places))
	}
}

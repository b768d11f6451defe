package shelf

import (
	"errors"

	"gladstone/api"
)

// noRoom is the error of a piece for which there is no room in its lane.
type noRoom struct{}

func (noRoom) Error() string { return api.ErrSize.Error() }

func (noRoom) Unwrap() error { return api.ErrSize }

// lacksRoom returns whether a piece found no room.
func lacksRoom(err error) bool {
	var no noRoom
	return errors.As(err, &no)
}

// code returns the code of an error; OK if there is none.
func code(err error) api.Errno {
	var e api.Errno
	if errors.As(err, &e) {
		return e
	}
	return api.OK
}

// open returns the shelf at work, or the first error: ErrUnknown, if nothing
// else is wrong, unless all pieces that are named came.
func open(given api.Shelf, named ...int) (shelf, api.Errno) {
	if e := checkLanes(given.Lanes); e != api.OK {
		return shelf{}, e
	}
	if e := checkBags(given.Bags); e != api.OK {
		return shelf{}, e
	}
	if len(given.Plan) > len(given.Bags) {
		return shelf{}, api.ErrMany
	}
	work, err := shelf{Shelf: given, known: memory{}}.fill(given.Plan...)
	if err != nil {
		return shelf{}, code(err)
	}
	for _, piece := range named {
		if !within(piece, 0, work.came-1) {
			return shelf{}, api.ErrUnknown
		}
	}
	return work, api.OK
}

func within(n, from, to int) bool { return from <= n && n <= to }

func checkLanes(lanes []int) api.Errno {
	if len(lanes) == 0 {
		return api.ErrFew
	}
	if len(lanes) > api.ShelfLanes {
		return api.ErrMany
	}
	for _, long := range lanes {
		if !within(long, 1, api.ShelfLength) {
			return api.ErrAmount
		}
	}
	return api.OK
}

func checkBags(bags []api.Bag) api.Errno {
	if len(bags) > api.ShelfPieces {
		return api.ErrMany
	}
	for _, b := range bags {
		if e := checkBag(b); e != api.OK {
			return e
		}
	}
	return api.OK
}

func checkBag(b api.Bag) api.Errno {
	if !within(b.Long, 1, api.ShelfLength) || !within(b.Out.Min, 0, api.ShelfHour) || !within(b.Out.Max, 0, api.ShelfHour) {
		return api.ErrAmount
	}
	if b.Out.Min > b.Out.Max {
		return api.ErrOrder
	}
	return api.OK
}

// checkHours returns the first error of the hours of a truth.
func (s shelf) checkHours(hours []int) api.Errno {
	if len(hours) < s.came {
		return api.ErrFew
	}
	if len(hours) > s.came {
		return api.ErrMany
	}
	for piece, hour := range hours {
		if out := s.Bags[piece].Out; !within(hour, out.Min, out.Max) {
			return api.ErrContrary
		}
	}
	return api.OK
}

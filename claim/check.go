package claim

import (
	"errors"

	"gladstone/api"
)

// unknown stands for a value that is not known of a piece, or was not told.
const unknown = -1

// misplaced is the error of a number that may not be in an assignment.
type misplaced struct{ code api.Errno }

func (m misplaced) Error() string { return m.code.Error() }

func (m misplaced) Unwrap() error { return m.code }

// code returns the code of an error; OK if there is none.
func code(err error) api.Errno {
	var m misplaced
	if errors.As(err, &m) {
		return m.code
	}
	return api.OK
}

func within(n, from, to int) bool { return from <= n && n <= to }

func checkClaims(c api.Claims) api.Errno {
	if !within(c.Features, 1, api.ClaimFeatures) || !within(c.Most, 0, api.ClaimMost) {
		return api.ErrAmount
	}
	if e := checkLists(c.Pieces, api.ClaimPieces, c.Features); e != api.OK {
		return e
	}
	return checkLists(c.Told, api.ClaimTold, c.Features)
}

// checkLists returns the first error of lists of the values of all features.
func checkLists(lists [][]int, most, features int) api.Errno {
	if len(lists) > most {
		return api.ErrMany
	}
	for _, values := range lists {
		if e := checkLength(values, features); e != api.OK {
			return e
		}
		for _, value := range values {
			if !within(value, unknown, api.ClaimValue) {
				return api.ErrAmount
			}
		}
	}
	return api.OK
}

func checkLength(list []int, wanted int) api.Errno {
	switch {
	case len(list) < wanted:
		return api.ErrFew
	case len(list) > wanted:
		return api.ErrMany
	}
	return api.OK
}

package vault

import (
	"errors"
	"slices"

	"gladstone/api"
)

// untrue is the error of a truth that is not valid.
type untrue struct{ code api.Errno }

func (u untrue) Error() string { return u.code.Error() }

// code returns the code of an error; OK if there is none.
func code(err error) api.Errno {
	var u untrue
	if errors.As(err, &u) {
		return u.code
	}
	return api.OK
}

func within(n, from, to int) bool { return from <= n && n <= to }

func checkVault(v api.Vault) api.Errno {
	if !within(v.Places, 1, api.VaultPlaces) || !within(v.Pieces, 1, api.VaultPieces) {
		return api.ErrAmount
	}
	if e := checkStart(v); e != api.OK {
		return e
	}
	if len(v.Calls) > api.VaultCalls {
		return api.ErrMany
	}
	for _, list := range v.Calls {
		if e := checkCall(list, v.Pieces); e != api.OK {
			return e
		}
	}
	return api.OK
}

func checkStart(v api.Vault) api.Errno {
	if len(v.Start) > v.Places {
		return api.ErrMany
	}
	in := empty
	for _, piece := range v.Start {
		if !within(piece, 0, v.Pieces-1) {
			return api.ErrUnknown
		}
		if in.has(piece) {
			return api.ErrRepeat
		}
		in = in.with(piece)
	}
	return api.OK
}

func checkCall(list []int, pieces int) api.Errno {
	if len(list) == 0 {
		return api.ErrFew
	}
	least := 0
	for _, piece := range list {
		if !within(piece, 0, pieces-1) {
			return api.ErrUnknown
		}
		if piece < least {
			return api.ErrOrder
		}
		least = piece + 1
	}
	return api.OK
}

// checkTruth returns the first error of a truth.
func (v vault) checkTruth(truth []int) error {
	if len(truth) < len(v.Calls) {
		return untrue{api.ErrFew}
	}
	if len(truth) > len(v.Calls) {
		return untrue{api.ErrMany}
	}
	for call, piece := range truth {
		if !slices.Contains(v.Calls[call], piece) {
			return untrue{api.ErrContrary}
		}
	}
	return nil
}

package claim

import (
	"slices"

	"gladstone/api"
)

// search looks for the first set of which it is so.
type search struct{ is func(set) bool }

// among returns what it finds; ErrEmpty if it is so of none.
func (s search) among(sets []set) (set, api.Errno) {
	i := slices.IndexFunc(sets, s.is)
	if i < 0 {
		return none, api.ErrEmpty
	}
	return sets[i], api.OK
}

// short returns the first ones of the fewest claimants who are short.
func (c claims) short() (set, api.Errno) {
	return search{c.areShort}.among(first(len(c.Told)).parts())
}

// areShort returns whether claimants are more than the pieces that fit some of them.
func (c claims) areShort(claimants set) bool {
	pieces := none
	for _, claimant := range claimants.list() {
		pieces |= c.persons[claimant].fitting()
	}
	return pieces.size() < claimants.size()
}

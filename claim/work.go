package claim

import (
	"slices"

	"gladstone/api"
)

// person is a claimant: an owner, or a stranger.
type person interface {
	fitting() set // the pieces that fit them
}

type (
	// owner is one whom something fits.
	owner struct{ pieces set }

	// stranger is one whom nothing fits.
	stranger struct{}
)

func (o owner) fitting() set { return o.pieces }

func (stranger) fitting() set { return none }

// claims is claims at work.
type claims struct {
	api.Claims
	persons []person // the claimants
}

// begin returns valid claims at work.
func begin(given api.Claims) claims {
	c := claims{Claims: given}
	for claimant := range given.Told {
		c.persons = append(c.persons, c.person(claimant))
	}
	return c
}

func (c claims) person(claimant int) person {
	pieces := none
	for piece := range c.Pieces {
		if c.mistakes(claimant, piece).size() <= c.Most {
			pieces = pieces.with(piece)
		}
	}
	if pieces == none {
		return stranger{}
	}
	return owner{pieces}
}

// mistakes returns the features about which the claimant is mistaken if the piece is theirs.
func (c claims) mistakes(claimant, piece int) set {
	wrong := none
	for feature, value := range c.Pieces[piece] {
		told := c.Told[claimant][feature]
		if value != unknown && told != unknown && told != value {
			wrong = wrong.with(feature)
		}
	}
	return wrong
}

// open returns the claims at work, or their first error.
func open(given api.Claims) (claims, api.Errno) {
	if e := checkClaims(given); e != api.OK {
		return claims{}, e
	}
	return begin(given), api.OK
}

// openClaimant is open; ErrUnknown if there is no such claimant.
func openClaimant(given api.Claims, claimant int) (claims, api.Errno) {
	work, e := open(given)
	if e == api.OK && !within(claimant, 0, len(given.Told)-1) {
		return claims{}, api.ErrUnknown
	}
	return work, e
}

// openPair is openClaimant; ErrUnknown if there is no such piece.
func openPair(given api.Claims, claimant, piece int) (claims, api.Errno) {
	work, e := openClaimant(given, claimant)
	if e == api.OK && !within(piece, 0, len(given.Pieces)-1) {
		return claims{}, api.ErrUnknown
	}
	return work, e
}

// telling returns new claims in which the claimant told the value of the feature.
func (c claims) telling(claimant, feature, value int) api.Claims {
	told := c.Claims
	told.Pieces, told.Told = rows(c.Pieces), rows(c.Told)
	told.Told[claimant][feature] = value
	return told
}

// without returns new claims without the claimant and the piece.
func (c claims) without(claimant, piece int) api.Claims {
	rest := c.Claims
	rest.Pieces, rest.Told = rows(cut(c.Pieces, piece)), rows(cut(c.Told, claimant))
	return rest
}

// rows returns a copy of the lists.
func rows(lists [][]int) [][]int {
	var copied [][]int
	for _, list := range lists {
		copied = append(copied, slices.Clone(list))
	}
	return copied
}

// cut returns the list without the element at the place.
func cut[T any](list []T, place int) []T { return join(list[:place:place], list[place+1:]) }

// join returns one new list of what is in all lists.
func join[T any](lists ...[]T) []T {
	var all []T
	for _, list := range lists {
		all = append(all, list...)
	}
	return all
}

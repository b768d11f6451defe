package claim

import "gladstone/api"

// question is a claimant, a feature that they have not told of, and how many best
// assignments are left after the answer that leaves most.
type question struct{ claimant, feature, left int }

// question returns the first one of those that leave fewest; ErrEmpty if none
// leaves fewer than there are.
func (c claims) question() (question, api.Errno) {
	asked, e := question{left: len(c.outcome().all)}, api.ErrEmpty
	number := 0
next:
	if number < len(c.Told)*c.Features {
		q := question{claimant: number / c.Features, feature: number % c.Features}
		number++
		if c.Told[q.claimant][q.feature] != unknown {
			goto next
		}
		q.left = c.most(q.claimant, q.feature)
		if q.left < asked.left {
			asked, e = q, api.OK
		}
		goto next
	}
	if e != api.OK {
		return question{}, e
	}
	return asked, api.OK
}

// most returns how many best assignments are left at most, whatever the claimant tells of the feature.
func (c claims) most(claimant, feature int) int {
	left := 0
	for value := range api.ClaimValue + 1 {
		told := begin(c.telling(claimant, feature, value))
		left = max(left, len(told.outcome().all))
	}
	return left
}

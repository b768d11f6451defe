package key_test

import (
	"fmt"
	"math/rand/v2"
	"testing"

	"gladstone/api"
	"gladstone/claim"
	"gladstone/key"
)

// features returns claims of which each lock is a piece, and each key a feature:
// 1 if it surely opens the lock, 0 if it surely does not. A claimant tells what
// the keys of the turns did.
func features(r api.Ring, l turns) api.Claims {
	c := api.Claims{Features: len(r.Keys)}
	for lock := range r.Locks {
		var values ints
		for k := range r.Keys {
			values = append(values, map[int]int{api.Always: 1, api.NoWay: 0, api.Perhaps: -1}[sure(key.Opens(r, k, lock))])
		}
		c.Pieces = append(c.Pieces, values)
	}
	said := make(ints, len(r.Keys))
	for k := range said {
		said[k] = -1
	}
	for _, x := range l {
		said[x.Key] = 0
		if x.Opens {
			said[x.Key] = 1
		}
	}
	c.Told = rows{said}
	return c
}

// T3: keys.
func TestClaimed(t *testing.T) {
	cases, some := 0, 0
	draws(4000, func(rng *rand.Rand, r api.Ring) {
		if len(r.Keys) == 0 {
			return
		}
		r.Tries = nil
		keys := rng.Perm(len(r.Keys))
		var l turns
		for _, k := range keys[:rng.IntN(len(keys)+1)] {
			l = append(l, turned(k, rng.IntN(2) == 0))
		}
		c := features(r, l)
		fits := sure(claim.Fits(c, 0))
		says(t, fmt.Sprint("Which ", r, l, c), fmt.Sprint(key.Which(r, l)), fits, api.OK)
		cases++
		if 0 < len(fits) && len(fits) < len(r.Locks) {
			some++
		}
	})
	enough(t, cases, 3000)
	enough(t, some, 600)
}

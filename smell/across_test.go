package smell_test

import (
	"math/rand/v2"
	"slices"
	"testing"

	"gladstone/api"
	"gladstone/claim"
	"gladstone/smell"
)

// features returns claims of which each hamper is a piece, and each nose a feature:
// 1 if it is smelled, 0 if it is not. At its own place nothing is known of a hamper
// before SmellHour. A claimant tells what the noses tell. As claims have a feature
// at least, there is one more, of which nothing is known or told, if there is no nose.
func features(s api.Smell) api.Claims {
	if len(s.Noses) == 0 {
		return api.Claims{Features: 1, Pieces: slices.Repeat(rows{{-1}}, len(s.Hampers)), Told: rows{{-1}}}
	}
	c := api.Claims{Features: len(s.Noses)}
	var told ints
	for _, n := range s.Noses {
		value := 0
		if n.Smelled {
			value = 1
		}
		told = append(told, value)
	}
	c.Told = rows{told}
	for _, place := range s.Hampers {
		var values ints
		for _, n := range s.Noses {
			value := 0
			if n.Place == place {
				value = -1
				if n.Hour == api.SmellHour {
					value = 1
				}
			}
			values = append(values, value)
		}
		c.Pieces = append(c.Pieces, values)
	}
	return c
}

// drawnStill returns a smell without doors, and with one nose at most at each place.
func drawnStill(rng *rand.Rand) api.Smell {
	s := api.Smell{Places: 1 + rng.IntN(api.SmellPlaces)}
	s.Hampers = rng.Perm(s.Places)[:min(s.Places, 1+rng.IntN(api.SmellHampers))]
	places := rng.Perm(s.Places)
	for _, place := range places[:min(s.Places, rng.IntN(api.SmellNoses+1))] {
		s.Noses = append(s.Noses, nose(place, api.SmellHour-rng.IntN(2)*rng.IntN(api.SmellHour+1), rng.IntN(4) == 0))
	}
	return s
}

// T6: hamper.
func TestClaimed(t *testing.T) {
	rng := rand.New(rand.NewPCG(6, 9))
	some, none := 0, 0
	for range 6000 {
		s := drawnStill(rng)
		fits, e := claim.Fits(features(s), 0)
		suspects, f := smell.Suspects(s)
		if e != api.OK || (f == api.OK) != (len(fits) > 0) || !slices.Equal(fits, suspects) {
			t.Fatal("Suspects", s, fits, suspects, e, f)
		}
		switch {
		case len(fits) == 0:
			none++
		case len(fits) < len(s.Hampers):
			some++
		}
	}
	enough(t, some, 1000)
	enough(t, none, 1000)
}

package claim_test

import (
	"math/rand/v2"
	"testing"

	"gladstone/api"
	"gladstone/claim"
	"gladstone/ticket"
)

// halves returns a roll of one hour, with pieces whose numbers are known and
// halves of travellers, some of which can be read; and claims of which the number
// is the only feature.
func halves(rng *rand.Rand) (api.Roll, api.Claims) {
	r := api.Roll{First: rng.IntN(api.TicketFirst + 1), Hours: 1, Per: 1 + rng.IntN(api.TicketPer)}
	c := api.Claims{Features: 1}
	read := func(n int) api.Half { return api.Half{Number: api.Band{Min: r.First + n, Max: r.First + n}} }
	torn := rng.Perm(r.Per)
	for _, n := range torn[:rng.IntN(len(torn)+1)] {
		r.Pieces, c.Pieces = append(r.Pieces, read(n)), append(c.Pieces, ints{n})
	}
	for range rng.IntN(api.TicketStubs + 1) {
		stub, n := api.Half{Number: api.Band{Max: api.TicketNumber}}, rng.IntN(api.ClaimValue+2)-1
		if n >= 0 {
			stub = read(n)
		}
		r.Stubs, c.Told = append(r.Stubs, stub), append(c.Told, ints{n})
	}
	return r, c
}

// T1: stubs.
func TestStubs(t *testing.T) {
	rng := rand.New(rand.NewPCG(1, 7))
	given := 0
	for range 4000 {
		r, c := halves(rng)
		pieces, e := ticket.Given(r)
		if gives, _ := gainOf(c); (e == api.OK) != (gives == len(c.Told)) {
			t.Fatal("all given back", r, c, gives, e)
		}
		if e != api.OK {
			continue
		}
		for stub, piece := range pieces {
			given++
			if other := sure(claim.Sure(c))[stub]; other != piece {
				t.Fatal("Given", r, c, stub, piece, other)
			}
			for piece := range r.Pieces {
				if a, b := sure(ticket.Pair(r, stub, piece)), sure(claim.Verdict(c, stub, piece)); a != b {
					t.Fatal("Pair", r, c, stub, piece, a, b)
				}
			}
		}
	}
	enough(t, given, 800)
}

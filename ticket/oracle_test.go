package ticket_test

import (
	"math/rand/v2"
	"slices"

	"gladstone/api"
)

// truth is a truth of a roll, written down as the chapter says it.
type truth struct{ history, numbers, pieces []int }

// truths returns all truths of a valid roll in their order. It goes through
// everything that can be, and shares no idea with the package.
func truths(r api.Roll) []truth {
	var found []truth
	for _, h := range histories(r) {
		for _, numbers := range lists(len(r.Pieces), r.First, h[r.Hours], func(piece, n int) bool {
			return fits(h, r.Pieces[piece], n)
		}) {
			for _, pieces := range lists(len(r.Stubs), 0, len(r.Pieces), func(stub, piece int) bool {
				return fits(h, r.Stubs[stub], numbers[piece])
			}) {
				found = append(found, truth{h, numbers, pieces})
			}
		}
	}
	return found
}

func histories(r api.Roll) [][]int {
	all := [][]int{{r.First}}
	for range r.Hours {
		var longer [][]int
		for _, h := range all {
			for torn := 0; torn <= r.Per; torn++ {
				longer = append(longer, append(slices.Clone(h), h[len(h)-1]+torn))
			}
		}
		all = longer
	}
	return slices.DeleteFunc(all, func(h []int) bool {
		return slices.ContainsFunc(r.Seen, func(s api.Seen) bool { return !in(s.Next, h[s.Hour]) })
	})
}

// lists returns, in order, all lists of so many different numbers from from to
// end - 1 that may be at their places.
func lists(length, from, end int, may func(place, n int) bool) [][]int {
	all := [][]int{nil}
	for place := range length {
		var longer [][]int
		for _, l := range all {
			for n := from; n < end; n++ {
				if !slices.Contains(l, n) && may(place, n) {
					longer = append(longer, append(slices.Clone(l), n))
				}
			}
		}
		all = longer
	}
	return all
}

func in(b api.Band, n int) bool { return b.Min <= n && n <= b.Max }

func fits(h []int, x api.Half, n int) bool {
	hour := hourOf(h, n)
	return hour >= 0 && in(x.Number, n) && in(x.Hour, hour)
}

// hourOf returns the hour in which the ticket is torn, -1 if it is not.
func hourOf(h []int, n int) int {
	for hour := range len(h) - 1 {
		if h[hour] <= n && n < h[hour+1] {
			return hour
		}
	}
	return -1
}

func band(a, b int) api.Band { return api.Band{Min: a, Max: b} }

func half(a, b, c, d int) api.Half { return api.Half{Number: band(a, b), Hour: band(c, d)} }

func seen(hour, a, b int) api.Seen { return api.Seen{Hour: hour, Next: band(a, b)} }

// rollK, rollM and rollU are K, M and U of the chapter's examples.
func rollK() api.Roll {
	return api.Roll{
		First: 10, Hours: 3, Per: 2,
		Seen:   []api.Seen{seen(2, 12, 13)},
		Pieces: []api.Half{half(10, 12, 0, 1), half(11, 11, 0, 2), half(12, 15, 1, 2)},
		Stubs:  []api.Half{half(12, 12, 0, 2), half(10, 15, 2, 2)},
	}
}

func rollM() api.Roll { return api.Roll{Hours: 1, Per: 3} }

func rollU() api.Roll {
	return with(rollK(), func(r *api.Roll) { r.Stubs[0] = half(15, 15, 0, 0) })
}

// wide returns the roll with the most truths that there can be.
func wide() api.Roll {
	any := half(0, 99, 0, 2)
	return api.Roll{First: 90, Hours: 3, Per: 3, Pieces: []api.Half{any, any, any, any}, Stubs: []api.Half{any, any, any}}
}

// with returns a copy of the roll with a change.
func with(r api.Roll, change func(r *api.Roll)) api.Roll {
	r.Seen, r.Pieces, r.Stubs = slices.Clone(r.Seen), slices.Clone(r.Pieces), slices.Clone(r.Stubs)
	change(&r)
	return r
}

// happened returns a roll and what really happened: all that is known is right.
func happened(rng *rand.Rand) (api.Roll, truth) {
	r := api.Roll{First: rng.IntN(91), Hours: 1 + rng.IntN(3), Per: 1 + rng.IntN(3)}
	h := []int{r.First}
	for hour := range r.Hours {
		h = append(h, h[hour]+rng.IntN(r.Per+1))
	}
	t := truth{history: h}
	for range rng.IntN(3) {
		hour := rng.IntN(r.Hours + 1)
		r.Seen = append(r.Seen, api.Seen{Hour: hour, Next: around(rng, h[hour], 3, 99)})
	}
	torn := rng.Perm(h[r.Hours] - r.First)
	for _, n := range torn[:rng.IntN(min(4, len(torn))+1)] {
		t.numbers = append(t.numbers, r.First+n)
		r.Pieces = append(r.Pieces, known(rng, r, h, r.First+n))
	}
	given := rng.Perm(len(r.Pieces))
	for _, piece := range given[:rng.IntN(min(3, len(given))+1)] {
		t.pieces = append(t.pieces, piece)
		r.Stubs = append(r.Stubs, known(rng, r, h, t.numbers[piece]))
	}
	return r, t
}

// known returns what is known of the half of a ticket.
func known(rng *rand.Rand, r api.Roll, h []int, n int) api.Half {
	return api.Half{Number: around(rng, n, 3, 99), Hour: around(rng, hourOf(h, n), 2, r.Hours-1)}
}

// around returns a band from 0 to most with n in it, at most so much off on each side.
func around(rng *rand.Rand, n, off, most int) api.Band {
	return band(max(n-rng.IntN(off+1), 0), min(n+rng.IntN(off+1), most))
}

// drawn returns a valid roll, in which something may be wrong.
func drawn(rng *rand.Rand) api.Roll {
	r, _ := happened(rng)
	odd := func() api.Half {
		a, b := r.First+rng.IntN(8), rng.IntN(r.Hours)
		return api.Half{Number: around(rng, a, 2, 99), Hour: around(rng, b, 1, r.Hours-1)}
	}
	if rng.IntN(3) == 0 && len(r.Pieces) < api.TicketPieces {
		r.Pieces = append(r.Pieces, odd())
	}
	for rng.IntN(3) == 0 && len(r.Stubs) < api.TicketStubs {
		r.Stubs = slices.Insert(r.Stubs, rng.IntN(len(r.Stubs)+1), odd())
	}
	if rng.IntN(4) == 0 {
		r.Seen = append(r.Seen, api.Seen{Hour: rng.IntN(r.Hours + 1), Next: around(rng, r.First+rng.IntN(6), 2, 99)})
	}
	return r
}

// draws calls try with many valid rolls, always the same ones.
func draws(count int, try func(rng *rand.Rand, r api.Roll)) {
	rng := rand.New(rand.NewPCG(1, uint64(count)))
	for range count {
		try(rng, drawn(rng))
	}
}

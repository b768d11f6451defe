package ticket_test

import (
	"math/rand/v2"
	"slices"
	"testing"

	"gladstone/api"
	"gladstone/ticket"
)

// told returns what the function says of each truth: the different values, ascending.
func told(all []truth, value func(x truth) int) ints {
	var l ints
	for _, x := range all {
		l = append(l, value(x))
	}
	slices.Sort(l)
	return slices.Compact(l)
}

// ends returns the least and the greatest of ascending numbers.
func ends(l ints) api.Band { return band(l[0], l[len(l)-1]) }

// verdict returns in how many truths something is so.
func verdict(all []truth, so func(x truth) bool) int {
	yes := 0
	for _, x := range all {
		if so(x) {
			yes++
		}
	}
	switch yes {
	case 0:
		return api.NoWay
	case len(all):
		return api.Always
	}
	return api.Perhaps
}

// counted returns how many different histories truths have.
func counted(all []truth) int {
	l := [][]int{}
	for _, x := range all {
		l = append(l, x.history)
	}
	return len(slices.CompactFunc(l, slices.Equal))
}

// count returns Count of a valid roll.
func count(t *testing.T, r api.Roll) int {
	t.Helper()
	n, e := ticket.Count(r)
	if e != api.OK {
		t.Fatal(r, e)
	}
	return n
}

// P1.2 to P1.5, P1.8, P1.10, P1.11: what all truths say when they are gone through.
func TestAll(t *testing.T) {
	empty := 0
	draws(3000, func(_ *rand.Rand, r api.Roll) {
		all := truths(r)
		if n := count(t, r); n != counted(all) {
			t.Fatal(r, n, counted(all))
		}
		if len(all) == 0 {
			empty++
			nothing(t, r)
			return
		}
		h, n, p, e := ticket.First(r)
		want(t, "First's history", h, e, all[0].history, api.OK)
		want(t, "First's numbers", n, e, all[0].numbers, api.OK)
		want(t, "First's pieces", p, e, all[0].pieces, api.OK)
		hours(t, r, all)
		pieces(t, r, all)
		stubs(t, r, all)
		if t.Failed() {
			t.Fatal(r)
		}
	})
	if empty < 300 || empty > 1500 {
		t.Error("the rolls that are tried are of one kind:", empty)
	}
}

// nothing fails unless the functions that need a truth return ErrEmpty, or ErrUnknown if there is nothing to ask about.
func nothing(t *testing.T, r api.Roll) {
	missing := map[string]bool{
		"Numbers": len(r.Pieces) == 0,
		"Hours":   len(r.Pieces) == 0,
		"Before":  len(r.Pieces) < 2,
		"Pair":    len(r.Pieces) == 0 || len(r.Stubs) == 0,
	}
	for _, c := range named(callsWith(0, 0, 1, 0, api.Seen{}), searching()...) {
		e := api.ErrEmpty
		if missing[c.name] {
			e = api.ErrUnknown
		}
		if got, f := c.call(r); f != e || !blank(got) {
			t.Fatal(c.name, r, got, f)
		}
	}
}

func hours(t *testing.T, r api.Roll, all []truth) {
	for hour := range r.Hours + 1 {
		b, e := ticket.Next(r, hour)
		want(t, "Next", b, e, ends(told(all, func(x truth) int { return x.history[hour] })), api.OK)
		if hour < r.Hours {
			b, e := ticket.Busy(r, hour)
			want(t, "Busy", b, e, ends(told(all, func(x truth) int { return x.history[hour+1] - x.history[hour] })), api.OK)
		}
	}
}

func pieces(t *testing.T, r api.Roll, all []truth) {
	for a := range r.Pieces {
		l, e := ticket.Numbers(r, a)
		want(t, "Numbers", l, e, told(all, func(x truth) int { return x.numbers[a] }), api.OK)
		l, e = ticket.Hours(r, a)
		want(t, "Hours", l, e, told(all, func(x truth) int { return hourOf(x.history, x.numbers[a]) }), api.OK)
		for b := range r.Pieces {
			if a != b {
				v, e := ticket.Before(r, a, b)
				want(t, "Before", v, e, verdict(all, func(x truth) bool { return x.numbers[a] < x.numbers[b] }), api.OK)
			}
		}
	}
}

func stubs(t *testing.T, r api.Roll, all []truth) {
	var given ints
	for stub := range r.Stubs {
		given = append(given, -1)
		for piece := range r.Pieces {
			v := verdict(all, func(x truth) bool { return x.pieces[stub] == piece })
			if v == api.Always {
				given[stub] = piece
			}
			got, e := ticket.Pair(r, stub, piece)
			want(t, "Pair", got, e, v, api.OK)
		}
	}
	l, e := ticket.Given(r)
	want(t, "Given", l, e, given, api.OK)
}

// P1.6: the least difference, as the promise says it.
func TestApartAll(t *testing.T) {
	draws(3000, func(_ *rand.Rand, r api.Roll) {
		for stub := range r.Stubs {
			others := truths(with(r, func(r *api.Roll) { r.Stubs = slices.Delete(r.Stubs, stub, stub+1) }))
			for piece := range r.Pieces {
				apart, e := 0, api.ErrEmpty
				for _, x := range others {
					for n := r.First; n < x.history[r.Hours]; n++ {
						far := max(n-x.numbers[piece], x.numbers[piece]-n)
						if fits(x.history, r.Stubs[stub], n) && (e != api.OK || far < apart) {
							apart, e = far, api.OK
						}
					}
				}
				got, f := ticket.Apart(r, stub, piece)
				want(t, "Apart", got, f, apart, e)
			}
		}
		if t.Failed() {
			t.Fatal(r)
		}
	})
}

// without returns the roll without some stubs.
func without(r api.Roll, stubs ints) api.Roll {
	return with(r, func(r *api.Roll) {
		for i, stub := range stubs {
			r.Stubs = slices.Delete(r.Stubs, stub-i, stub-i+1)
		}
	})
}

// P1.7, P1.18: without the stubs of Forged there is a truth, without those of no list that comes before.
func TestForgedAll(t *testing.T) {
	lists := []ints{{}, {0}, {1}, {2}, {0, 1}, {0, 2}, {1, 2}, {0, 1, 2}}
	draws(3000, func(_ *rand.Rand, r api.Roll) {
		for _, l := range lists {
			if len(l) > 0 && l[len(l)-1] >= len(r.Stubs) {
				continue
			}
			if len(truths(without(r, l))) > 0 {
				got, e := ticket.Forged(r)
				want(t, "Forged", got, e, l, api.OK)
				return
			}
		}
		got, e := ticket.Forged(r)
		want(t, "Forged", got, e, nil, api.ErrEmpty)
	})
}

// P1.9, P1.13: with one element more of Seen there are not more histories, and what was sure stays sure.
func TestMoreSeen(t *testing.T) {
	contrary := 0
	draws(2000, func(rng *rand.Rand, r api.Roll) {
		s := api.Seen{Hour: rng.IntN(r.Hours + 1), Next: around(rng, r.First+rng.IntN(5), 2, 99)}
		before, sure := count(t, r), map[[2]int]int{}
		pairs(r, func(a, b int) { sure[[2]int{a, b}], _ = ticket.Before(r, a, b) })
		more, e := ticket.Add(r, s)
		if len(r.Seen) == api.TicketSeen {
			want(t, "Add to a full roll", len(more.Seen), e, 0, api.ErrMany)
			return
		}
		with := with(r, func(r *api.Roll) { r.Seen = append(r.Seen, s) })
		after := len(truths(with))
		if before > 0 && after == 0 {
			contrary++
			want(t, "Add", more, e, api.Roll{}, api.ErrContrary)
			return
		}
		if e != api.OK || !equal(more, with) || count(t, more) > before {
			t.Fatal(r, s, more, e)
		}
		pairs(r, func(a, b int) {
			v, e := ticket.Before(more, a, b)
			if was := sure[[2]int{a, b}]; e == api.OK && was != api.Perhaps && v != was {
				t.Fatal(r, s, a, b, was, v)
			}
		})
	})
	if contrary < 50 {
		t.Error("hardly anything that is seen is contrary:", contrary)
	}
}

// pairs calls try with all pairs of two different pieces.
func pairs(r api.Roll, try func(a, b int)) {
	for a := range r.Pieces {
		for b := range r.Pieces {
			if a != b {
				try(a, b)
			}
		}
	}
}

// P1.12: what really happened is among all that can be.
func TestTrue(t *testing.T) {
	rng := rand.New(rand.NewPCG(3, 4))
	for range 2000 {
		r, x := happened(rng)
		if count(t, r) == 0 {
			t.Fatal(r, x)
		}
		for hour, n := range x.history {
			if b, _ := ticket.Next(r, hour); !in(b, n) {
				t.Fatal(r, x, hour, b)
			}
		}
		for hour := range r.Hours {
			if b, _ := ticket.Busy(r, hour); !in(b, x.history[hour+1]-x.history[hour]) {
				t.Fatal(r, x, hour, b)
			}
		}
		for piece, n := range x.numbers {
			l, _ := ticket.Numbers(r, piece)
			m, _ := ticket.Hours(r, piece)
			if !slices.Contains(l, n) || !slices.Contains(m, hourOf(x.history, n)) {
				t.Fatal(r, x, piece, l, m)
			}
		}
		for stub, piece := range x.pieces {
			v, _ := ticket.Pair(r, stub, piece)
			n, e := ticket.Apart(r, stub, piece)
			if v == api.NoWay || n != 0 || e != api.OK {
				t.Fatal(r, x, stub, v, n, e)
			}
		}
		if l, e := ticket.Forged(r); len(l) > 0 || e != api.OK {
			t.Fatal(r, x, l, e)
		}
	}
}

// P1.14: if a band is wider, or Per is greater, there are not fewer histories.
func TestWider(t *testing.T) {
	draws(2000, func(rng *rand.Rand, r api.Roll) {
		widen := func(b *api.Band, most int) { *b = band(max(b.Min-rng.IntN(2), 0), min(b.Max+rng.IntN(2), most)) }
		wider := with(r, func(r *api.Roll) {
			r.Per = min(r.Per+rng.IntN(2), api.TicketPer)
			for i := range r.Seen {
				widen(&r.Seen[i].Next, api.TicketNumber)
			}
			for _, l := range [][]api.Half{r.Pieces, r.Stubs} {
				for i := range l {
					widen(&l[i].Number, api.TicketNumber)
					widen(&l[i].Hour, r.Hours-1)
				}
			}
		})
		if count(t, wider) < count(t, r) {
			t.Fatal(r, wider)
		}
	})
}

// P1.15: Before of b and a is the contrary; if a always is before b, its hours are not later.
func TestOrder(t *testing.T) {
	contrary := map[int]int{api.Always: api.NoWay, api.NoWay: api.Always, api.Perhaps: api.Perhaps}
	draws(2000, func(_ *rand.Rand, r api.Roll) {
		if count(t, r) == 0 {
			return
		}
		pairs(r, func(a, b int) {
			v, _ := ticket.Before(r, a, b)
			w, e := ticket.Before(r, b, a)
			want(t, "Before", w, e, contrary[v], api.OK)
			l, _ := ticket.Hours(r, a)
			m, _ := ticket.Hours(r, b)
			if v == api.Always && (l[0] > m[0] || l[len(l)-1] > m[len(m)-1]) {
				t.Fatal(r, a, b, l, m)
			}
		})
	})
}

// P1.16, P1.17: no two stubs have one piece in Given; a stub that can be of the piece is not apart from it.
func TestPaired(t *testing.T) {
	draws(2000, func(_ *rand.Rand, r api.Roll) {
		l, e := ticket.Given(r)
		if e != api.OK {
			return
		}
		used := map[int]bool{}
		for stub, given := range l {
			if given >= 0 && used[given] {
				t.Fatal(r, l)
			}
			used[given] = true
			for piece := range r.Pieces {
				v, _ := ticket.Pair(r, stub, piece)
				n, _ := ticket.Apart(r, stub, piece)
				if (v == api.Always) != (given == piece) || v != api.NoWay && n != 0 || n > 0 && v != api.NoWay {
					t.Fatal(r, l, stub, piece, v, n)
				}
			}
		}
	})
}

// P1.19: from hour to hour the roll goes on by what is torn in the hour.
func TestSteps(t *testing.T) {
	draws(2000, func(_ *rand.Rand, r api.Roll) {
		h, _, _, e := ticket.First(r)
		if e != api.OK {
			return
		}
		for hour := range r.Hours {
			torn, _ := ticket.Busy(r, hour)
			from, _ := ticket.Next(r, hour)
			to, _ := ticket.Next(r, hour+1)
			if !in(torn, h[hour+1]-h[hour]) || !in(band(from.Min+torn.Min, from.Max+torn.Max), to.Min) || !in(band(from.Min+torn.Min, from.Max+torn.Max), to.Max) {
				t.Fatal(r, h, hour, torn, from, to)
			}
		}
	})
}

// P1.20: if a piece's number is known to be one of Numbers, there is a truth; if it is known to be another one, there is none.
func TestRead(t *testing.T) {
	draws(700, func(_ *rand.Rand, r api.Roll) {
		for piece := range r.Pieces {
			l, e := ticket.Numbers(r, piece)
			if e != api.OK {
				return
			}
			for n := max(r.First-1, 0); n <= r.First+9; n++ {
				read := with(r, func(r *api.Roll) { r.Pieces[piece].Number = band(n, n) })
				can := count(t, read) > 0 && in(r.Pieces[piece].Number, n)
				if can != slices.Contains(l, n) {
					t.Fatal(r, piece, n, l)
				}
			}
		}
	})
}

// P1.21: if all numbers are greater by as much, so is all that is returned.
func TestGreater(t *testing.T) {
	draws(2000, func(rng *rand.Rand, r api.Roll) {
		most := api.TicketFirst - r.First
		for _, s := range r.Seen {
			most = min(most, api.TicketNumber-s.Next.Max)
		}
		for _, x := range slices.Concat(r.Pieces, r.Stubs) {
			most = min(most, api.TicketNumber-x.Number.Max)
		}
		if most <= 0 {
			return
		}
		by := 1 + rng.IntN(most)
		raise := func(b *api.Band) { *b = band(b.Min+by, b.Max+by) }
		greater := with(r, func(r *api.Roll) {
			r.First += by
			for i := range r.Seen {
				raise(&r.Seen[i].Next)
			}
			for _, l := range [][]api.Half{r.Pieces, r.Stubs} {
				for i := range l {
					raise(&l[i].Number)
				}
			}
		})
		for _, c := range named(callsWith(r.Hours-1, 0, 1, 0, api.Seen{}), append(searching(), "Count", "Apart", "Forged")...) {
			a, e := c.call(r)
			b, f := c.call(greater)
			if e == api.OK {
				a = raised(a, c.name, by)
			}
			if e != f || !same(a, b) {
				t.Fatal(c.name, r, by, a, e, b, f)
			}
		}
	})
}

// raised returns what a function returns if all numbers are greater.
func raised(x any, name string, by int) any {
	up := func(l ints) ints {
		l = slices.Clone(l)
		for i := range l {
			l[i] += by
		}
		return l
	}
	switch name {
	case "Next":
		b := x.(api.Band)
		return band(b.Min+by, b.Max+by)
	case "First":
		f := x.(truth)
		return truth{up(f.history), up(f.numbers), f.pieces}
	case "Numbers":
		return up(x.([]int))
	}
	return x
}

// P1.22: if pieces are in another order, there are as many histories, and the same pairs.
func TestRenumbered(t *testing.T) {
	draws(2000, func(rng *rand.Rand, r api.Roll) {
		order := rng.Perm(len(r.Pieces))
		other := with(r, func(x *api.Roll) {
			for i, piece := range order {
				x.Pieces[piece] = r.Pieces[i]
			}
		})
		if count(t, r) != count(t, other) {
			t.Fatal(r, order)
		}
		for stub := range r.Stubs {
			for i, piece := range order {
				v, e := ticket.Pair(r, stub, i)
				got, f := ticket.Pair(other, stub, piece)
				want(t, "Pair", got, f, v, e)
			}
		}
	})
}

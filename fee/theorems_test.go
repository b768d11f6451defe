package fee_test

import (
	"fmt"
	"math/rand/v2"
	"slices"
	"testing"

	"gladstone/api"
	"gladstone/fee"
)

// sure returns a result that comes without an error.
func sure[T any](x T, e api.Errno) T {
	if e != api.OK {
		panic(e)
	}
	return x
}

func feeAt(t api.Tariff, kind int, c api.Term) int {
	return sure(fee.Fee(t, kind, c.Left, c.Fetched))
}

// terms calls try with many tariffs, kinds and terms.
func terms(count int, try func(rng *rand.Rand, t api.Tariff, kind int, c api.Term)) {
	draws(count, func(rng *rand.Rand, t api.Tariff) { try(rng, t, rng.IntN(t.Kinds), drawnTerm(rng)) })
}

// P2.1, P2.8, P2.9, P2.10: midnights, parted, longer.
func TestFees(t *testing.T) {
	terms(3000, func(rng *rand.Rand, x api.Tariff, kind int, c api.Term) {
		for day := range api.FeeDays {
			if n := sure(fee.Rate(x, kind, day)); n != rateOn(x, kind, day) {
				t.Fatal("Rate", x, kind, day, n)
			}
		}
		n := feeAt(x, kind, c)
		if n != feeOf(x, kind, c) {
			t.Fatal("Fee", x, kind, c, n)
		}
		if first := feeAt(x, kind, term(c.Left, c.Left/24*24+23)); first != x.First[kind] {
			t.Fatal("midnights", x, kind, c, first)
		}
		if c.Fetched+1 < api.FeeHours {
			more := 0
			if later := c.Fetched + 1; later%24 == 0 {
				more = rateOn(x, kind, later/24)
			}
			if later := feeAt(x, kind, term(c.Left, c.Fetched+1)); later != n+more {
				t.Fatal("midnights, longer", x, kind, c, n, later)
			}
		}
		if c.Left > 0 {
			if earlier := feeAt(x, kind, term(c.Left-1, c.Fetched)); earlier < n {
				t.Fatal("longer", x, kind, c, n, earlier)
			}
		}
		part := c.Left + rng.IntN(c.Fetched-c.Left+1)
		if two := feeAt(x, kind, term(c.Left, part)) + feeAt(x, kind, term(part, c.Fetched)); two != n+x.First[kind] {
			t.Fatal("parted", x, kind, c, part, n, two)
		}
	})
}

// P2.2, P2.3, P2.4, P2.11: what all cases say when they are gone through.
func TestAll(t *testing.T) {
	draws(700, func(rng *rand.Rand, x api.Tariff) {
		s := drawnStay(rng, x)
		all := truths(x, s)
		sums := told(all, func(x truth) int { return x.fee })
		what := fmt.Sprint(x, s)
		says(t, "Sums "+what, fmt.Sprint(fee.Sums(x, s)), sums, api.OK)
		for _, paid := range append(sums, sums[0]+1, rng.IntN(46), rng.IntN(1000)) {
			so := slices.DeleteFunc(slices.Clone(all), func(x truth) bool { return x.fee != paid })
			v := api.Perhaps
			switch len(so) {
			case 0:
				v = api.NoWay
			case len(all):
				v = api.Always
			}
			says(t, "Verdict "+what, fmt.Sprint(fee.Verdict(x, s, paid)), v, api.OK)
			says(t, "Over "+what, fmt.Sprint(fee.Over(x, s, paid)), band(paid-sums[len(sums)-1], paid-sums[0]), api.OK)
			left, fetched, e := band(0, 0), band(0, 0), api.ErrEmpty
			if len(so) > 0 {
				left, fetched, e = span(told(so, leftAt)), span(told(so, fetchedAt)), api.OK
			}
			says(t, "Hours "+what, fmt.Sprint(fee.Hours(x, s, paid)), left, fetched, e)
		}
		hour, most, e := 0, uncertain(all, leftAt), api.OK
		if other := uncertain(all, fetchedAt); other < most {
			hour, most = 1, other
		}
		if most >= len(sums) {
			hour, most, e = 0, 0, api.ErrEmpty
		}
		says(t, "Ask "+what, fmt.Sprint(fee.Ask(x, s)), hour, most, e)
		if t.Failed() {
			t.FailNow()
		}
	})
}

func leftAt(x truth) int { return x.Left }

func fetchedAt(x truth) int { return x.Fetched }

// uncertain returns how many sums there still can be at most when the hour is known.
func uncertain(all []truth, hour func(x truth) int) int {
	known := map[int][]truth{}
	for _, x := range all {
		known[hour(x)] = append(known[hour(x)], x)
	}
	most := 0
	for _, l := range known {
		most = max(most, len(told(l, func(x truth) int { return x.fee })))
	}
	return most
}

// P2.5, P2.12: until.
func TestUntilWhen(t *testing.T) {
	terms(3000, func(rng *rand.Rand, x api.Tariff, kind int, c api.Term) {
		paid := rng.IntN(30)
		hour, e := fee.Until(x, kind, c.Left, paid)
		if e == api.ErrEmpty {
			if hour != 0 || feeOf(x, kind, term(c.Left, c.Left)) <= paid {
				t.Fatal(x, kind, c, paid, hour)
			}
			return
		}
		if e != api.OK || hour < c.Left || feeOf(x, kind, term(c.Left, hour)) > paid {
			t.Fatal(x, kind, c, paid, hour, e)
		}
		if hour+1 < api.FeeHours && feeOf(x, kind, term(c.Left, hour+1)) <= paid {
			t.Fatal(x, kind, c, paid, hour, "later")
		}
	})
}

// P2.6, P2.13, P2.14: what all lists of fees say when they are gone through.
func TestAllLists(t *testing.T) {
	draws(500, func(rng *rand.Rand, x api.Tariff) {
		stays := drawnStays(rng, x)
		lists := feeLists(x, stays)
		var totals ints
		for _, l := range lists {
			totals = append(totals, total(l))
		}
		slices.Sort(totals)
		totals = slices.Compact(totals)
		what := fmt.Sprint(x, stays)
		says(t, "Totals "+what, fmt.Sprint(fee.Totals(x, stays)), totals, api.OK)
		for _, paid := range []int{totals[rng.IntN(len(totals))], totals[0] + rng.IntN(20), rng.IntN(1000)} {
			so := slices.DeleteFunc(slices.Clone(lists), func(l ints) bool { return total(l) != paid })
			e, split, parts := api.ErrEmpty, ints{}, []api.Band{}
			if len(so) > 0 {
				e, split = api.OK, so[0]
			}
			for i := range split {
				var fees ints
				for _, l := range so {
					fees = append(fees, l[i])
				}
				parts = append(parts, band(slices.Min(fees), slices.Max(fees)))
			}
			says(t, "Ways "+what, fmt.Sprint(fee.Ways(x, stays, paid)), len(so), api.OK)
			says(t, "Split "+what, fmt.Sprint(fee.Split(x, stays, paid)), split, e)
			says(t, "Parts "+what, fmt.Sprint(fee.Parts(x, stays, paid)), parts, e)
		}
		if len(stays) > 0 {
			before, last := sure(fee.Totals(x, stays[1:])), sure(fee.Sums(x, stays[0]))
			var sums ints
			for _, a := range before {
				for _, b := range last {
					sums = append(sums, a+b)
				}
			}
			slices.Sort(sums)
			says(t, "one stay more "+what, fmt.Sprint(slices.Compact(sums)), totals)
		}
		if t.Failed() {
			t.FailNow()
		}
	})
}

// cheap returns Cheap's offer.
func cheap(t *testing.T, x api.Tariff, kind int, c api.Term, carry int) offer {
	t.Helper()
	l, n, e := fee.Cheap(x, kind, c.Left, c.Fetched, carry)
	if e != api.OK {
		t.Fatal(x, kind, c, carry, e)
	}
	return offer{l, n}
}

// P2.7: of all lists of terms Cheap returns the one that it has to.
func TestCheapest(t *testing.T) {
	terms(150, func(rng *rand.Rand, x api.Tariff, kind int, c api.Term) {
		c.Fetched = min(c.Fetched, c.Left+60)
		carry := rng.IntN(13)
		if got, want := cheap(t, x, kind, c, carry), settled(x, kind, c, carry); compare(got, want) != 0 {
			t.Fatal(x, kind, c, carry, got, want)
		}
	})
	terms(200, func(rng *rand.Rand, x api.Tariff, kind int, c api.Term) {
		x.First[kind] = min(x.First[kind], 1)
		c = term(18+rng.IntN(4), 24+rng.IntN(4)) // over a midnight no list needs more than four terms
		carry := rng.IntN(4)
		all := offers(x, kind, c, carry, 4)
		if got, want := cheap(t, x, kind, c, carry), slices.MinFunc(all, compare); compare(got, want) != 0 {
			t.Fatal(x, kind, c, carry, got, want)
		}
	})
}

// P2.15, P2.16: cheap, carried longer.
func TestCheapTerms(t *testing.T) {
	terms(400, func(rng *rand.Rand, x api.Tariff, kind int, c api.Term) {
		carry := rng.IntN(api.FeeCarry + 1)
		got := cheap(t, x, kind, c, carry)
		last := len(got.terms) - 1
		if got.terms[0].Left != c.Left || got.terms[last].Fetched != c.Fetched {
			t.Fatal("not these hours", x, kind, c, carry, got)
		}
		pennies := 0
		for i, y := range got.terms {
			pennies += feeOf(x, kind, y)
			if y.Fetched < y.Left || i > 0 && !in(band(got.terms[i-1].Fetched, got.terms[i-1].Fetched+carry), y.Left) {
				t.Fatal("no such terms", x, kind, c, carry, got)
			}
		}
		if pennies != got.pennies {
			t.Fatal("not these pennies", x, kind, c, carry, got, pennies)
		}
		for range 100 {
			end := c.Left + rng.IntN(c.Fetched-c.Left+1)
			again := min(end+rng.IntN(carry+1), c.Fetched)
			if n := feeAt(x, kind, term(c.Left, end)) + feeAt(x, kind, term(again, c.Fetched)); n < pennies {
				t.Fatal("two terms are cheaper", x, kind, c, carry, got, end, again, n)
			}
		}
		whole := feeAt(x, kind, c)
		if none := cheap(t, x, kind, c, 0); none.pennies != whole || len(none.terms) != 1 || pennies > whole {
			t.Fatal("not the fee", x, kind, c, none, whole)
		}
		if carry < api.FeeCarry && cheap(t, x, kind, c, carry+1).pennies > pennies {
			t.Fatal("dearer for who carries longer", x, kind, c, carry)
		}
	})
}

// P2.17: free.
func TestFree(t *testing.T) {
	terms(1500, func(rng *rand.Rand, x api.Tariff, kind int, c api.Term) {
		more := with(x, func(x *api.Tariff) {
			x.Free = append(x.Free, rng.IntN(api.FeeDays))
			slices.Sort(x.Free)
			x.Free = slices.Compact(x.Free)
		})
		if feeAt(more, kind, c) > feeAt(x, kind, c) {
			t.Fatal(x, more, kind, c)
		}
		all := with(x, func(x *api.Tariff) { x.Free = ints{0, 1, 2, 3, 4} })
		if n := feeAt(all, kind, c); n != x.First[kind] {
			t.Fatal(all, kind, c, n)
		}
		s := drawnStay(rng, x)
		says(t, "Sums if all is free", fmt.Sprint(fee.Sums(all, s)), ints{x.First[s.Kind]}, api.OK)
	})
}

// P2.18: dearer.
func TestDearer(t *testing.T) {
	terms(1500, func(rng *rand.Rand, x api.Tariff, kind int, c api.Term) {
		i := rng.IntN(len(x.Rates))
		if x.Rates[i].Pennies[kind] == api.FeePenny {
			return
		}
		from, end := x.Rates[i].From, api.FeeDays
		if i+1 < len(x.Rates) {
			end = x.Rates[i+1].From
		}
		days := 0
		for day := max(from, c.Left/24+1); day < min(end, c.Fetched/24+1); day++ {
			if !slices.Contains(x.Free, day) {
				days++
			}
		}
		dearer := with(x, func(x *api.Tariff) { x.Rates[i].Pennies[kind]++ })
		if a, b := feeAt(x, kind, c), feeAt(dearer, kind, c); b != a+days {
			t.Fatal(x, i, kind, c, a, b, days)
		}
	})
}

// P2.19: later.
func TestLater(t *testing.T) {
	const last = api.FeeDays - 1
	terms(1500, func(rng *rand.Rand, x api.Tariff, kind int, c api.Term) {
		x.Rates = slices.DeleteFunc(x.Rates, func(r api.Rate) bool { return r.From == last })
		x.Free = slices.DeleteFunc(x.Free, func(day int) bool { return day == last })
		if c.Fetched/24 == last {
			c = term(max(c.Left-24, 0), c.Fetched-24)
		}
		later := with(x, func(x *api.Tariff) {
			for i := range x.Rates[1:] {
				x.Rates[i+1].From++
			}
			for i := range x.Free {
				x.Free[i]++
			}
		})
		if a, b := feeAt(x, kind, c), feeAt(later, kind, term(c.Left+24, c.Fetched+24)); a != b {
			t.Fatal(x, kind, c, a, b)
		}
	})
}

// P2.20: kinds.
func TestKinds(t *testing.T) {
	terms(1500, func(rng *rand.Rand, x api.Tariff, kind int, c api.Term) {
		number := rng.Perm(x.Kinds)
		renumbered := func(l ints) ints {
			other := make(ints, len(l))
			for i, n := range l {
				other[number[i]] = n
			}
			return other
		}
		other := with(x, func(x *api.Tariff) {
			x.First = renumbered(x.First)
			for i, r := range x.Rates {
				x.Rates[i].Pennies = renumbered(r.Pennies)
			}
		})
		if a, b := feeAt(x, kind, c), feeAt(other, number[kind], c); a != b {
			t.Fatal(x, other, number, kind, c, a, b)
		}
	})
}

// P2.21: surer.
func TestSurer(t *testing.T) {
	draws(800, func(rng *rand.Rand, x api.Tariff) {
		s := drawnStay(rng, x)
		within := func(b api.Band) api.Band {
			b.Min += rng.IntN(b.Max - b.Min + 1)
			b.Max -= rng.IntN(b.Max - b.Min + 1)
			return b
		}
		surer := api.Stay{Kind: s.Kind, Left: within(s.Left), Fetched: within(s.Fetched)}
		if fee.CheckStay(x, surer) != api.OK {
			return
		}
		all := sure(fee.Sums(x, s))
		for _, n := range sure(fee.Sums(x, surer)) {
			if !slices.Contains(all, n) {
				t.Fatal(x, s, surer, n, all)
			}
		}
	})
}

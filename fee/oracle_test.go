package fee_test

import (
	"cmp"
	"math/rand/v2"
	"slices"

	"gladstone/api"
)

type ints = []int

// rateOn returns the rate of a kind on a day, as the chapter says it.
func rateOn(t api.Tariff, kind, day int) int {
	if slices.Contains(t.Free, day) {
		return 0
	}
	pennies := 0
	for _, r := range t.Rates {
		if r.From <= day {
			pennies = r.Pennies[kind]
		}
	}
	return pennies
}

// feeOf returns the fee hour by hour: each midnight adds a rate.
func feeOf(t api.Tariff, kind int, c api.Term) int {
	pennies := t.First[kind]
	for hour := c.Left + 1; hour <= c.Fetched; hour++ {
		if hour%24 == 0 {
			pennies += rateOn(t, kind, hour/24)
		}
	}
	return pennies
}

// truth is a case of a stay and its fee.
type truth struct {
	api.Term
	fee int
}

// truths returns all cases of a valid stay.
func truths(t api.Tariff, s api.Stay) []truth {
	var all []truth
	for left := range api.FeeHours {
		for fetched := left; fetched < api.FeeHours; fetched++ {
			if c := (api.Term{Left: left, Fetched: fetched}); in(s.Left, left) && in(s.Fetched, fetched) {
				all = append(all, truth{c, feeOf(t, s.Kind, c)})
			}
		}
	}
	return all
}

func in(b api.Band, n int) bool { return b.Min <= n && n <= b.Max }

// told returns what the function says of the truths: the different numbers, ascending.
func told(all []truth, say func(x truth) int) ints {
	var l ints
	for _, x := range all {
		l = append(l, say(x))
	}
	slices.Sort(l)
	return slices.Compact(l)
}

func sumsOf(t api.Tariff, s api.Stay) ints {
	return told(truths(t, s), func(x truth) int { return x.fee })
}

// span returns the band of ascending numbers.
func span(l ints) api.Band { return band(l[0], l[len(l)-1]) }

// feeLists returns all lists of fees in lexicographic order.
func feeLists(t api.Tariff, stays []api.Stay) []ints {
	all := []ints{{}}
	for _, s := range stays {
		var longer []ints
		sums := sumsOf(t, s)
		for _, l := range all {
			for _, fee := range sums {
				longer = append(longer, append(slices.Clone(l), fee))
			}
		}
		all = longer
	}
	return all
}

func total(l ints) int {
	n := 0
	for _, x := range l {
		n += x
	}
	return n
}

// offer is a list of terms, and its pennies.
type offer struct {
	terms   []api.Term
	pennies int
}

// compare returns which offer Cheap prefers.
func compare(a, b offer) int {
	return cmp.Or(cmp.Compare(a.pennies, b.pennies), cmp.Compare(len(a.terms), len(b.terms)), slices.CompareFunc(a.terms, b.terms, func(a, b api.Term) int {
		return cmp.Or(cmp.Compare(a.Left, b.Left), cmp.Compare(a.Fetched, b.Fetched))
	}))
}

// offers returns all lists of at most so many terms.
func offers(t api.Tariff, kind int, whole api.Term, carry, most int) []offer {
	if most == 0 {
		return nil
	}
	all := []offer{{[]api.Term{whole}, feeOf(t, kind, whole)}}
	for end := whole.Left; end <= whole.Fetched; end++ {
		first := api.Term{Left: whole.Left, Fetched: end}
		fee := feeOf(t, kind, first)
		for again := end; again <= min(end+carry, whole.Fetched); again++ {
			for _, x := range offers(t, kind, api.Term{Left: again, Fetched: whole.Fetched}, carry, most-1) {
				all = append(all, offer{append([]api.Term{first}, x.terms...), fee + x.pennies})
			}
		}
	}
	return all
}

// settled returns the best offer: those from all hours to the end are made
// better by one term before them until none gets better.
func settled(t api.Tariff, kind int, whole api.Term, carry int) offer {
	best := map[int]offer{}
	for left := whole.Left; left <= whole.Fetched; left++ {
		c := api.Term{Left: left, Fetched: whole.Fetched}
		best[left] = offer{[]api.Term{c}, feeOf(t, kind, c)}
	}
	for better := true; better; {
		better = false
		for left := whole.Left; left <= whole.Fetched; left++ {
			for end := left; end <= whole.Fetched; end++ {
				first := api.Term{Left: left, Fetched: end}
				fee := feeOf(t, kind, first)
				for again := end; again <= min(end+carry, whole.Fetched); again++ {
					x := offer{append([]api.Term{first}, best[again].terms...), fee + best[again].pennies}
					if compare(x, best[left]) < 0 {
						best[left], better = x, true
					}
				}
			}
		}
	}
	return best[whole.Left]
}

func band(a, b int) api.Band { return api.Band{Min: a, Max: b} }

func term(left, fetched int) api.Term { return api.Term{Left: left, Fetched: fetched} }

func rate(from int, pennies ...int) api.Rate { return api.Rate{From: from, Pennies: pennies} }

func stay(kind, a, b, c, d int) api.Stay {
	return api.Stay{Kind: kind, Left: band(a, b), Fetched: band(c, d)}
}

// tariffT and stayS are T and S of the chapter's examples.
func tariffT() api.Tariff {
	return api.Tariff{Kinds: 2, First: ints{2, 1}, Rates: []api.Rate{rate(0, 1, 2), rate(2, 3, 1)}, Free: ints{3}}
}

func stayS() api.Stay { return stay(0, 20, 26, 46, 50) }

// with returns a copy of a tariff with a change.
func with(t api.Tariff, change func(t *api.Tariff)) api.Tariff {
	t.First, t.Rates, t.Free = slices.Clone(t.First), slices.Clone(t.Rates), slices.Clone(t.Free)
	for i := range t.Rates {
		t.Rates[i].Pennies = slices.Clone(t.Rates[i].Pennies)
	}
	change(&t)
	return t
}

// drawnTariff returns a valid tariff.
func drawnTariff(rng *rand.Rand) api.Tariff {
	t := api.Tariff{Kinds: 1 + rng.IntN(api.FeeKinds)}
	most := 1 + rng.IntN(api.FeePenny) // a low one makes equal fees likely
	pennies := func() ints {
		var l ints
		for range t.Kinds {
			l = append(l, rng.IntN(most+1))
		}
		return l
	}
	t.First = pennies()
	from := 0
	for range 1 + rng.IntN(api.FeeRates) {
		if from < api.FeeDays {
			t.Rates = append(t.Rates, rate(from, pennies()...))
		}
		from += 1 + rng.IntN(3)
	}
	for day := range api.FeeDays {
		if rng.IntN(5) == 0 {
			t.Free = append(t.Free, day)
		}
	}
	return t
}

// drawnStay returns a valid stay.
func drawnStay(rng *rand.Rand, t api.Tariff) api.Stay {
	c := drawnTerm(rng)
	width := 1 << rng.IntN(8)
	around := func(n int) api.Band {
		return band(max(n-rng.IntN(width), 0), min(n+rng.IntN(width), api.FeeHours-1))
	}
	return api.Stay{Kind: rng.IntN(t.Kinds), Left: around(c.Left), Fetched: around(c.Fetched)}
}

func drawnStays(rng *rand.Rand, t api.Tariff) []api.Stay {
	var l []api.Stay
	for range rng.IntN(api.FeeStays + 1) {
		l = append(l, drawnStay(rng, t))
	}
	return l
}

func drawnTerm(rng *rand.Rand) api.Term {
	a, b := rng.IntN(api.FeeHours), rng.IntN(api.FeeHours)
	return term(min(a, b), max(a, b))
}

// draws calls try with many valid tariffs, always the same ones.
func draws(count int, try func(rng *rand.Rand, t api.Tariff)) {
	rng := rand.New(rand.NewPCG(2, uint64(count)))
	for range count {
		try(rng, drawnTariff(rng))
	}
}

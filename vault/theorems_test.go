package vault_test

import (
	"fmt"
	"math/rand/v2"
	"slices"
	"testing"

	"gladstone/api"
	"gladstone/vault"
)

// sure returns a result that comes without an error.
func sure[T any](x T, e api.Errno) T {
	if e != api.OK {
		panic(e)
	}
	return x
}

// run and best return what is fetched, and the choice.
func run(v api.Vault, truth ints, rule int) made {
	choice, fetched, e := vault.Run(v, truth, rule)
	return made{choice, sure(fetched, e)}
}

func best(v api.Vault, truth ints) made {
	choice, fetched, e := vault.Best(v, truth)
	return made{choice, sure(fetched, e)}
}

// P5.1, P5.2, P5.9: rules, and what all choices say.
func TestAllChoices(t *testing.T) {
	draws(6000, 8, 2, func(rng *rand.Rand, v api.Vault, truth ints) {
		what, all := fmt.Sprint(" ", v, truth), bestOf(v, truth)
		for rule := range 4 {
			x := runOf(v, truth, rule)
			says(t, fmt.Sprint("Run ", rule, what), fmt.Sprint(vault.Run(v, truth, rule)), x.choice, x.fetched, api.OK)
		}
		says(t, "Best"+what, fmt.Sprint(vault.Best(v, truth)), all[0].choice, all[0].fetched, api.OK)
		says(t, "Count"+what, fmt.Sprint(vault.Count(v, truth)), len(all), api.OK)
		for call := range truth {
			for piece := range v.Pieces {
				says(t, fmt.Sprint("Sent ", call, piece, what), fmt.Sprint(vault.Sent(v, truth, call, piece)), sentOf(all, call, piece), api.OK)
			}
		}
		if t.Failed() {
			t.FailNow()
		}
	})
}

// P5.3, P5.4: phases and places, as the chapter says them.
func TestPhasesAndPlaces(t *testing.T) {
	draws(4000, 8, 2, func(rng *rand.Rand, v api.Vault, truth ints) {
		what := fmt.Sprint(" ", v, truth)
		says(t, "Phases"+what, fmt.Sprint(vault.Phases(v, truth)), phasesOf(v, truth), api.OK)
		fetched := rng.IntN(api.VaultCalls + 1)
		places, e := placesOf(v, truth, fetched)
		says(t, fmt.Sprint("Places ", fetched, what), fmt.Sprint(vault.Places(v, truth, fetched)), places, e)
		if t.Failed() {
			t.FailNow()
		}
	})
}

// P5.5, P5.6, P5.7, P5.15: what all truths say.
func TestAllTruths(t *testing.T) {
	draws(1200, 5, 3, func(rng *rand.Rand, v api.Vault, truth ints) {
		tells(t, fmt.Sprint(" ", v), v, tellOf(v))
		if t.Failed() {
			t.FailNow()
		}
	})
}

// P5.8: late.
func TestLate(t *testing.T) {
	draws(3000, 8, 6, func(rng *rand.Rand, v api.Vault, truth ints) {
		if late, least := run(v, truth, api.RuleLate), best(v, truth); late.fetched != least.fetched {
			t.Fatal(v, truth, late, least)
		}
	})
}

// fetchedAt returns for each call how many pieces the choice fetches; it
// reports a choice that sends what is not there, or at a wrong call (P5.20).
func fetchedAt(t *testing.T, v api.Vault, truth ints, m made) ints {
	t.Helper()
	in, fetched := slices.Clone(v.Start), make(ints, len(truth))
	for call, piece := range truth {
		sent := m.choice[call]
		if full := len(in) == v.Places; (sent >= 0) != (full && !slices.Contains(in, piece)) || sent < -1 {
			t.Fatal("sent at a wrong call", v, truth, m, call)
		}
		if sent >= 0 && !slices.Contains(in, sent) {
			t.Fatal("not in the office", v, truth, m, call)
		}
		if in = without(in, sent); !slices.Contains(in, piece) {
			in, fetched[call] = longer(in, piece), 1
		}
	}
	if n := sum(fetched); n != m.fetched {
		t.Fatal("fetched", v, truth, m, n)
	}
	return fetched
}

func sum(l ints) int {
	n := 0
	for _, x := range l {
		n += x
	}
	return n
}

// P5.10, P5.20: phases, choice.
func TestInPhases(t *testing.T) {
	draws(3000, 8, 6, func(rng *rand.Rand, v api.Vault, truth ints) {
		begins := sure(vault.Phases(v, truth))
		fetchedAt(t, v, truth, best(v, truth))
		if least := best(v, truth).fetched; least < len(begins)-1 {
			t.Fatal("fewer than phases", v, truth, least, begins)
		}
		for rule := range 4 {
			fetched := fetchedAt(t, v, truth, run(v, truth, rule))
			for i, begin := range begins {
				end := append(slices.Clone(begins), len(truth))[i+1]
				if n := sum(fetched[begin:end]); n > v.Places && (rule == api.RuleOld || rule == api.RuleStale) {
					t.Fatal("more than places", v, truth, rule, fetched, begins)
				}
			}
		}
	})
}

// P5.11, P5.14: new, in the office.
func TestNew(t *testing.T) {
	draws(3000, 8, 6, func(rng *rand.Rand, v api.Vault, truth ints) {
		pieces := slices.Compact(slices.Sorted(slices.Values(truth)))
		fresh := slices.DeleteFunc(slices.Clone(pieces), func(p int) bool { return slices.Contains(v.Start, p) })
		room := len(fresh)+len(v.Start) <= v.Places
		for _, m := range []made{best(v, truth), run(v, truth, 0), run(v, truth, 1), run(v, truth, 2), run(v, truth, 3)} {
			if m.fetched < len(fresh) || (room || len(fresh) == 0) && m.fetched > len(fresh) {
				t.Fatal(v, truth, m, fresh)
			}
		}
	})
}

// P5.12: places.
func TestOnePlaceMore(t *testing.T) {
	draws(3000, 8, 6, func(rng *rand.Rand, v api.Vault, truth ints) {
		if v.Places == api.VaultPlaces {
			return
		}
		wider := with(v, func(v *api.Vault) { v.Places++ })
		if a, b := best(v, truth), best(wider, truth); b.fetched > a.fetched {
			t.Fatal("best", v, truth, a, b)
		}
		if a, b := run(v, truth, api.RuleStale), run(wider, truth, api.RuleStale); b.fetched > a.fetched {
			t.Fatal("stale", v, truth, a, b)
		}
		for fetched := range api.VaultCalls + 1 {
			places, e := vault.Places(v, truth, fetched)
			if enough := e == api.OK && places <= v.Places; enough != (best(v, truth).fetched <= fetched) {
				t.Fatal("Places", v, truth, fetched, places, e)
			}
		}
	})
}

// P5.13: one call more.
func TestOneCallMore(t *testing.T) {
	draws(3000, 8, 6, func(rng *rand.Rand, v api.Vault, truth ints) {
		if len(truth) == 0 {
			return
		}
		shorter := with(v, func(v *api.Vault) { v.Calls = v.Calls[:len(v.Calls)-1] })
		a, b := best(shorter, truth[:len(truth)-1]), best(v, truth)
		if b.fetched != a.fetched && b.fetched != a.fetched+1 {
			t.Fatal(v, truth, a, b)
		}
	})
}

// P5.15, P5.16: truths, regret.
func TestWithin(t *testing.T) {
	draws(300, 6, 4, func(rng *rand.Rand, v api.Vault, truth ints) {
		fewest, truths := sure(vault.Fewest(v)), truthsOf(v)
		if n := sure(vault.Truths(v)); n != len(truths) {
			t.Fatal("Truths", v, n)
		}
		var least ints
		for _, truth := range truths {
			least = append(least, best(v, truth).fetched)
		}
		if spread(least) != fewest {
			t.Fatal("Fewest", v, fewest, least)
		}
		for rule := range 4 {
			var fetched, more ints
			for i, truth := range truths {
				n := run(v, truth, rule).fetched
				fetched, more = append(fetched, n), append(more, n-least[i])
			}
			if b, n := sure(vault.Fetches(v, rule)), sure(vault.Regret(v, rule)); spread(fetched) != b || slices.Max(more) != n {
				t.Fatal("rule", v, rule, b, n)
			}
		}
		regrets := ints{sure(vault.Regret(v, 0)), sure(vault.Regret(v, 1)), sure(vault.Regret(v, 2))}
		if rule := sure(vault.Rule(v)); rule != slices.Index(regrets, slices.Min(regrets)) || sure(vault.Regret(v, api.RuleLate)) != 0 {
			t.Fatal("Rule", v, rule, regrets)
		}
	})
}

// P5.17, P5.18: ask, known.
func TestAsked(t *testing.T) {
	wideOf := func(b api.Band) int { return b.Max - b.Min }
	draws(600, 6, 4, func(rng *rand.Rand, v api.Vault, truth ints) {
		now := sure(vault.Fewest(v))
		call, wide, e := vault.Ask(v)
		if e == api.OK && (wide >= wideOf(now) || len(v.Calls[call]) < 2) || e != api.OK && e != api.ErrEmpty {
			t.Fatal("Ask", v, call, wide, e)
		}
		for c, l := range v.Calls {
			most := 0
			for _, piece := range l {
				sharp := known(v, c, piece)
				b := sure(vault.Fewest(sharp))
				most = max(most, wideOf(b))
				if b.Min < now.Min || b.Max > now.Max {
					t.Fatal("Fewest", v, sharp, now, b)
				}
				rule := rng.IntN(4)
				if a, b := sure(vault.Fetches(v, rule)), sure(vault.Fetches(sharp, rule)); b.Min < a.Min || b.Max > a.Max {
					t.Fatal("Fetches", v, sharp, rule, a, b)
				}
			}
			asks := e == api.OK && c == call
			if asks && most != wide || e == api.OK && len(l) > 1 && (most < wide || most == wide && c < call) || e != api.OK && len(l) > 1 && most < wideOf(now) {
				t.Fatal("Ask", v, call, wide, e, c, most)
			}
		}
	})
}

// P5.19: renumbered.
func TestRenumbered(t *testing.T) {
	draws(1500, 7, 3, func(rng *rand.Rand, v api.Vault, truth ints) {
		number := rng.Perm(v.Pieces)
		others := func(l ints) ints {
			var other ints
			for _, piece := range l {
				other = append(other, number[piece])
			}
			return other
		}
		x := with(v, func(v *api.Vault) {
			v.Start = others(v.Start)
			for call, l := range v.Calls {
				v.Calls[call] = slices.Sorted(slices.Values(others(l)))
			}
		})
		other := others(truth)
		for _, rule := range []int{api.RuleOld, api.RuleStale} {
			a, b := run(v, truth, rule), run(x, other, rule)
			if a.fetched != b.fetched {
				t.Fatal(v, truth, x, other, rule, a, b)
			}
		}
		if a, b := best(v, truth), best(x, other); a.fetched != b.fetched || sure(vault.Count(v, truth)) != sure(vault.Count(x, other)) {
			t.Fatal(v, truth, x, other, a, b)
		}
	})
}

package vault_test

import (
	"math/rand/v2"
	"slices"

	"gladstone/api"
)

type ints = []int

func band(a, b int) api.Band { return api.Band{Min: a, Max: b} }

func vaultOf(places, pieces int, start ints, calls ...ints) api.Vault {
	return api.Vault{Places: places, Pieces: pieces, Start: start, Calls: calls}
}

// vaultV and vaultW are V and W of the chapter's examples, truthX and truthY the truths X and Y of V.
func vaultV() api.Vault { return vaultOf(2, 4, ints{0, 1}, ints{2}, ints{0}, ints{1, 3}, ints{0}) }

func vaultW() api.Vault { return vaultOf(1, 2, ints{0}, ints{0, 1}, ints{0, 1}) }

func truthX() ints { return ints{2, 0, 1, 0} }

func truthY() ints { return ints{2, 0, 3, 0} }

// asked returns a vault whose calls are known.
func asked(places, pieces int, start ints, truth ...int) api.Vault {
	v := vaultOf(places, pieces, start)
	for _, piece := range truth {
		v.Calls = append(v.Calls, ints{piece})
	}
	return v
}

// truthOf returns the first truth of a vault: the only one, if its calls are known.
func truthOf(v api.Vault) ints {
	var truth ints
	for _, l := range v.Calls {
		truth = append(truth, l[0])
	}
	return truth
}

// with returns a copy of a vault with a change.
func with(v api.Vault, change func(v *api.Vault)) api.Vault {
	v.Start, v.Calls = slices.Clone(v.Start), slices.Clone(v.Calls)
	for call, l := range v.Calls {
		v.Calls[call] = slices.Clone(l)
	}
	change(&v)
	return v
}

// known returns the vault if it is known that a piece is asked for at a call.
func known(v api.Vault, call, piece int) api.Vault {
	return with(v, func(v *api.Vault) { v.Calls[call] = ints{piece} })
}

// longer returns a new list with one number more.
func longer(l ints, n int) ints { return append(slices.Clone(l), n) }

// truthsOf returns all truths, in lexicographic order.
func truthsOf(v api.Vault) []ints {
	all := []ints{{}}
	for _, some := range v.Calls {
		var more []ints
		for _, l := range all {
			for _, n := range some {
				more = append(more, longer(l, n))
			}
		}
		all = more
	}
	return all
}

// made is a choice, and how many pieces are fetched with it.
type made struct {
	choice  ints
	fetched int
}

// without returns the list without the number.
func without(l ints, n int) ints {
	return slices.DeleteFunc(slices.Clone(l), func(m int) bool { return m == n })
}

// choicesOf returns all choices, in lexicographic order.
func choicesOf(v api.Vault, truth ints) []made {
	var all []made
	var extend func(in, choice ints, fetched int)
	extend = func(in, choice ints, fetched int) {
		if len(choice) == len(truth) {
			all = append(all, made{choice, fetched})
			return
		}
		piece := truth[len(choice)]
		switch {
		case slices.Contains(in, piece):
			extend(in, longer(choice, -1), fetched)
		case len(in) < v.Places:
			extend(longer(in, piece), longer(choice, -1), fetched+1)
		default:
			for _, sent := range slices.Sorted(slices.Values(in)) {
				extend(longer(without(in, sent), piece), longer(choice, sent), fetched+1)
			}
		}
	}
	extend(v.Start, nil, 0)
	return all
}

// bestOf returns the best choices, in lexicographic order.
func bestOf(v api.Vault, truth ints) []made {
	all := choicesOf(v, truth)
	least := slices.MinFunc(all, func(a, b made) int { return a.fetched - b.fetched }).fetched
	return slices.DeleteFunc(all, func(m made) bool { return m.fetched > least })
}

// fewestOf returns how many pieces the best choices fetch.
func fewestOf(v api.Vault, truth ints) int { return bestOf(v, truth)[0].fetched }

// nextOf returns the next call for a piece after a call, or a later one than all.
func nextOf(truth ints, call, piece int) int {
	for later := call + 1; later < len(truth); later++ {
		if truth[later] == piece {
			return later
		}
	}
	return len(truth)
}

// runOf returns what the rule does: of the pieces in the office the one for
// which a number is least is sent; the lists are ascending, so of several such
// pieces it is the one with the least number.
func runOf(v api.Vault, truth ints, rule int) made {
	came, last := map[int]int{}, map[int]int{} // the calls at which pieces came, and were asked for last; those of Start before all
	in := slices.Sorted(slices.Values(v.Start))
	for i, piece := range v.Start {
		came[piece], last[piece] = i-len(v.Start), i-len(v.Start)
	}
	var m made
	for call, piece := range truth {
		sent := -1
		if !slices.Contains(in, piece) {
			if len(in) == v.Places {
				sent = slices.MinFunc(in, func(a, b int) int {
					switch rule {
					case api.RuleOld:
						return came[a] - came[b]
					case api.RuleStale:
						return last[a] - last[b]
					case api.RuleLate:
						return nextOf(truth, call, b) - nextOf(truth, call, a)
					}
					return a - b
				})
				in = without(in, sent)
			}
			in = slices.Sorted(slices.Values(longer(in, piece)))
			came[piece] = call
			m.fetched++
		}
		last[piece] = call
		m.choice = append(m.choice, sent)
	}
	return m
}

// sentOf returns the verdict on whether the best choices send the piece at the call.
func sentOf(best []made, call, piece int) int {
	n := 0
	for _, m := range best {
		if m.choice[call] == piece {
			n++
		}
	}
	switch n {
	case len(best):
		return api.Always
	case 0:
		return api.NoWay
	}
	return api.Perhaps
}

// phasesOf returns the calls with which phases begin.
func phasesOf(v api.Vault, truth ints) ints {
	var begins ints
	for call := range truth {
		if call == 0 {
			begins = append(begins, call)
			continue
		}
		pieces := map[int]bool{}
		for _, piece := range truth[begins[len(begins)-1] : call+1] {
			pieces[piece] = true
		}
		if len(pieces) > v.Places {
			begins = append(begins, call)
		}
	}
	return begins
}

// placesOf returns the least number of places with which so many pieces are enough.
func placesOf(v api.Vault, truth ints, fetched int) (int, api.Errno) {
	for places := 1; places <= api.VaultPieces; places++ {
		if places < len(v.Start) {
			continue
		}
		if fewestOf(with(v, func(v *api.Vault) { v.Places = places }), truth) <= fetched {
			return places, api.OK
		}
	}
	return 0, api.ErrEmpty
}

// told is what all truths say of a vault.
type told struct {
	truths     int
	fetches    [4]api.Band // by each rule
	fewest     api.Band
	regrets    [4]int
	rule       int
	call, wide int
	askE       api.Errno
}

// spread returns the least and the greatest number.
func spread(l ints) api.Band { return band(slices.Min(l), slices.Max(l)) }

// bestBand returns how many pieces the best choices fetch, over all truths.
func bestBand(v api.Vault) api.Band {
	var l ints
	for _, truth := range truthsOf(v) {
		l = append(l, fewestOf(v, truth))
	}
	return spread(l)
}

// tellOf returns what all truths say of the vault.
func tellOf(v api.Vault) told {
	truths := truthsOf(v)
	x := told{truths: len(truths), fewest: bestBand(v)}
	for rule := range x.fetches {
		var fetched, more ints
		for _, truth := range truths {
			n := runOf(v, truth, rule).fetched
			fetched, more = append(fetched, n), append(more, n-fewestOf(v, truth))
		}
		x.fetches[rule], x.regrets[rule] = spread(fetched), slices.Max(more)
	}
	for _, rule := range []int{api.RuleStale, api.RuleOld, api.RuleLow} {
		if x.regrets[rule] <= x.regrets[x.rule] {
			x.rule = rule
		}
	}
	x.call, x.wide, x.askE = askOf(v, x.fewest, bestBand)
	return x
}

// askOf returns the call of which it should be asked, and the width then, if
// the best choices fetch so many pieces now, and as many as fewest says then.
func askOf(v api.Vault, now api.Band, fewest func(v api.Vault) api.Band) (call, wide int, e api.Errno) {
	wide, e = now.Max-now.Min, api.ErrEmpty
	for c, l := range v.Calls {
		if len(l) == 1 {
			continue
		}
		most := 0
		for _, piece := range l {
			b := fewest(known(v, c, piece))
			most = max(most, b.Max-b.Min)
		}
		if most < wide {
			call, wide, e = c, most, api.OK
		}
	}
	if e != api.OK {
		return 0, 0, e
	}
	return call, wide, e
}

// ledger is the fewest pieces that were fetched for each set of pieces that can be in the office then; -1 for others.
type ledger [1 << api.VaultPieces]int

// ledgersOf returns all ledgers after all calls of the truths: another way to
// find what the best choices fetch, for vaults of too many truths and choices.
func ledgersOf(v api.Vault) map[ledger]bool {
	var l ledger
	for in := range l {
		l[in] = -1
	}
	start := 0
	for _, piece := range v.Start {
		start |= 1 << piece
	}
	l[start] = 0
	all := map[ledger]bool{l: true}
	for _, pieces := range v.Calls {
		more := map[ledger]bool{}
		for l := range all {
			for _, piece := range pieces {
				more[l.after(v, piece)] = true
			}
		}
		all = more
	}
	return all
}

// after returns the ledger after one call more.
func (l ledger) after(v api.Vault, piece int) ledger {
	var next ledger
	for in := range next {
		next[in] = -1
	}
	put := func(in, n int) {
		if next[in] < 0 || n < next[in] {
			next[in] = n
		}
	}
	for in, n := range l {
		var here ints
		for p := range api.VaultPieces {
			if in>>p&1 == 1 {
				here = append(here, p)
			}
		}
		switch {
		case n < 0:
		case slices.Contains(here, piece):
			put(in, n)
		case len(here) < v.Places:
			put(in|1<<piece, n+1)
		default:
			for _, sent := range here {
				put(in&^(1<<sent)|1<<piece, n+1)
			}
		}
	}
	return next
}

// ledgerBand returns how many pieces the best choices fetch, over all truths.
func ledgerBand(v api.Vault) api.Band {
	var fewest ints
	for l := range ledgersOf(v) {
		n := slices.DeleteFunc(l[:], func(n int) bool { return n < 0 })
		fewest = append(fewest, slices.Min(n))
	}
	return spread(fewest)
}

// drawn returns a valid vault of at most so many calls, with lists of at most so many pieces.
func drawn(rng *rand.Rand, calls, most int) api.Vault {
	v := vaultOf(1+rng.IntN(api.VaultPlaces), 1+rng.IntN(api.VaultPieces), nil)
	if rng.IntN(2) == 0 {
		v.Places = 1 + rng.IntN(2)
	}
	v.Start = rng.Perm(v.Pieces)[:min(v.Places, v.Pieces)]
	v.Start = v.Start[:len(v.Start)-min(rng.IntN(len(v.Start)+1), rng.IntN(len(v.Start)+1))]
	for range calls - min(rng.IntN(calls+1), rng.IntN(calls+1)) {
		l := rng.Perm(v.Pieces)[:1+rng.IntN(min(most, v.Pieces))]
		v.Calls = append(v.Calls, slices.Sorted(slices.Values(l)))
	}
	return v
}

// draws calls try with many valid vaults, and a truth of each, always the same ones.
func draws(count, calls, most int, try func(rng *rand.Rand, v api.Vault, truth ints)) {
	rng := rand.New(rand.NewPCG(5, uint64(count)))
	for range count {
		v := drawn(rng, calls, most)
		var truth ints
		for _, l := range v.Calls {
			truth = append(truth, l[rng.IntN(len(l))])
		}
		try(rng, v, truth)
	}
}

package pile_test

import (
	"math/rand/v2"
	"slices"

	"gladstone/api"
)

type ints = []int

func band(a, b int) api.Band { return api.Band{Min: a, Max: b} }

func parcel(from, to, bears, tall int) api.Parcel {
	return api.Parcel{Weight: band(from, to), Bears: bears, Tall: tall}
}

func yardOf(limit int, parcels ...api.Parcel) api.Yard {
	return api.Yard{Parcels: parcels, Limit: limit}
}

// yardY and yardZ are Y and Z of the chapter's examples.
func yardY() api.Yard {
	return yardOf(6, parcel(8, 10, 12, 2), parcel(4, 6, 6, 2), parcel(2, 3, 3, 1), parcel(5, 5, 0, 1))
}

func yardZ() api.Yard { return with(yardY(), func(y *api.Yard) { y.Parcels[0].Bears = 8 }) }

// tower is a yard of which only one order stands, and this upside down.
func tower() api.Yard {
	return yardOf(12, parcel(1, 1, 0, 1), parcel(2, 2, 1, 1), parcel(3, 3, 3, 1), parcel(4, 4, 6, 1), parcel(5, 6, 10, 1))
}

// strong is a yard of so many pieces, all of which stand on one another in each order.
func strong(pieces int) api.Yard {
	return yardOf(12, slices.Repeat([]api.Parcel{parcel(1, 3, 30, 1)}, pieces)...)
}

// with returns a copy of a yard with a change.
func with(y api.Yard, change func(y *api.Yard)) api.Yard {
	y.Parcels = slices.Clone(y.Parcels)
	change(&y)
	return y
}

// weighed returns the yard if it is known what a piece weighs.
func weighed(y api.Yard, piece, weight int) api.Yard {
	return with(y, func(y *api.Yard) { y.Parcels[piece].Weight = band(weight, weight) })
}

// longer returns a new list with one number more.
func longer(l ints, n int) ints { return append(slices.Clone(l), n) }

// allLists returns all lists of one element of each choice, in lexicographic order.
func allLists(choices []ints) []ints {
	all := []ints{{}}
	for _, some := range choices {
		var more []ints
		for _, l := range all {
			for _, n := range some {
				more = append(more, longer(l, n))
			}
		}
		all = more
	}
	return all
}

// weightsOf returns all weights of a piece.
func weightsOf(p api.Parcel) ints {
	var l ints
	for weight := range api.PileWeight + 1 {
		if p.Weight.Min <= weight && weight <= p.Weight.Max {
			l = append(l, weight)
		}
	}
	return l
}

// casesOf returns all cases.
func casesOf(y api.Yard) []ints {
	var choices []ints
	for _, p := range y.Parcels {
		choices = append(choices, weightsOf(p))
	}
	return allLists(choices)
}

// loadIn returns the load of a place in a case, with something on top of the pile.
func loadIn(pile, weights ints, place, top int) int {
	load := top
	for _, piece := range pile[place+1:] {
		load += weights[piece]
	}
	return load
}

// standsIn returns whether the pile stands in a case, with something on top of it.
func standsIn(y api.Yard, pile, weights ints, top int) bool {
	for place, piece := range pile {
		if loadIn(pile, weights, place, top) > y.Parcels[piece].Bears {
			return false
		}
	}
	return true
}

// tallOf returns how tall the pile is.
func tallOf(y api.Yard, pile ints) int {
	tall := 0
	for _, piece := range pile {
		tall += y.Parcels[piece].Tall
	}
	return tall
}

// verdictOf returns the verdict on what is so in as many of all cases.
func verdictOf(so, all int) int {
	switch so {
	case all:
		return api.Always
	case 0:
		return api.NoWay
	}
	return api.Perhaps
}

// standing returns in how many cases the pile stands, with something on top of it.
func standing(y api.Yard, cases []ints, pile ints, top int) int {
	n := 0
	for _, weights := range cases {
		if standsIn(y, pile, weights, top) {
			n++
		}
	}
	return n
}

// surely returns whether these pieces are a pile that stands surely.
func surely(y api.Yard, cases []ints, pile ints) bool {
	return tallOf(y, pile) <= y.Limit && standing(y, cases, pile, 0) == len(cases)
}

// ordersOf returns all lists of so many of the numbers below n, none of them twice, in lexicographic order.
func ordersOf(n, size int) []ints {
	all := []ints{{}}
	for range size {
		var more []ints
		for _, l := range all {
			for piece := range n {
				if !slices.Contains(l, piece) {
					more = append(more, longer(l, piece))
				}
			}
		}
		all = more
	}
	return all
}

// pilesOf returns all piles, and lists of pieces that are too high.
func pilesOf(y api.Yard) []ints {
	var all []ints
	for size := range len(y.Parcels) + 1 {
		all = append(all, ordersOf(len(y.Parcels), size)...)
	}
	return all
}

// othersOf returns all orders of the pieces of the pile, in lexicographic order.
func othersOf(pile ints) []ints {
	sorted := slices.Sorted(slices.Values(pile))
	var all []ints
	for _, order := range ordersOf(len(pile), len(pile)) {
		var other ints
		for _, i := range order {
			other = append(other, sorted[i])
		}
		all = append(all, other)
	}
	return all
}

// swappedPairs returns how many pairs are in another order in the two piles of the same pieces.
func swappedPairs(a, b ints) int {
	n := 0
	for i := range a {
		for k := range i {
			if slices.Index(b, a[i]) < slices.Index(b, a[k]) {
				n++
			}
		}
	}
	return n
}

// listsOf returns all lists of some of the pile's pieces, ascending, the
// shorter ones first, and those of one length in lexicographic order.
func listsOf(pile ints) []ints {
	all := []ints{{}}
	for _, piece := range slices.Sorted(slices.Values(pile)) {
		for _, l := range slices.Clone(all) {
			all = append(all, longer(l, piece))
		}
	}
	slices.SortFunc(all, func(a, b ints) int {
		if len(a) != len(b) {
			return len(a) - len(b)
		}
		return slices.Compare(a, b)
	})
	return all
}

// told is what all cases say of a pile.
type told struct {
	loads     []api.Band
	crushed   ints
	stands    int
	spare     api.Band
	spareE    api.Errno
	on, weigh ints
	exchanges int
	mended    ints
	order     ints
	mendE     api.Errno
}

// tellOf returns what all cases say of the pile.
func tellOf(y api.Yard, pile ints) told {
	cases := casesOf(y)
	x := told{stands: verdictOf(standing(y, cases, pile, 0), len(cases)), weigh: weighOf(y, cases, pile)}
	for place, piece := range pile {
		var loads ints
		so := 0
		for _, weights := range cases {
			load := loadIn(pile, weights, place, 0)
			loads = append(loads, load)
			if load > y.Parcels[piece].Bears {
				so++
			}
		}
		x.loads = append(x.loads, band(slices.Min(loads), slices.Max(loads)))
		x.crushed = append(x.crushed, verdictOf(so, len(cases)))
	}
	x.spare, x.spareE = spareOf(y, cases, pile)
	for piece := range y.Parcels {
		if !slices.Contains(pile, piece) && surely(y, cases, longer(pile, piece)) {
			x.on = append(x.on, piece)
		}
	}
	x.mendE = api.ErrEmpty
	for _, order := range othersOf(pile) {
		if !surely(y, cases, order) {
			continue
		}
		n := swappedPairs(pile, order)
		if x.mendE != api.OK {
			x.order = order
		}
		if x.mendE != api.OK || n < x.exchanges {
			x.exchanges, x.mended, x.mendE = n, order, api.OK
		}
	}
	return x
}

// spareOf tries all weights on top of the pile.
func spareOf(y api.Yard, cases []ints, pile ints) (api.Band, api.Errno) {
	if len(pile) == 0 || standing(y, cases, pile, 0) == 0 {
		return api.Band{}, api.ErrEmpty
	}
	spare := band(-1, -1)
	for top := range api.PileBears + 2 {
		switch standing(y, cases, pile, top) {
		case 0:
		case len(cases):
			spare = band(top, top)
		default:
			spare.Max = top
		}
	}
	return spare, api.OK
}

// weighOf returns the first list of pieces with which nothing is in doubt.
func weighOf(y api.Yard, cases []ints, pile ints) ints {
	lists := listsOf(pile)
	return lists[slices.IndexFunc(lists, func(l ints) bool { return decides(y, cases, pile, l) })]
}

// decides returns whether the pile stands in all cases, or in none, of those in
// which these pieces weigh as much.
func decides(y api.Yard, cases []ints, pile, pieces ints) bool {
	stands := map[[api.PilePieces]int]bool{}
	for _, weights := range cases {
		var known [api.PilePieces]int
		for _, piece := range pieces {
			known[piece] = weights[piece]
		}
		now := standsIn(y, pile, weights, 0)
		if before, is := stands[known]; is && before != now {
			return false
		}
		stands[known] = now
	}
	return true
}

// yardTold is what all piles say of a yard.
type yardTold struct {
	count int
	most  ints
	few   []ints
	fewE  api.Errno
}

// tellYard returns what all piles say of the yard.
func tellYard(y api.Yard) yardTold {
	cases := casesOf(y)
	stands := map[[api.PilePieces + 1]int]bool{}
	for _, pile := range pilesOf(y) {
		stands[keyOf(pile)] = surely(y, cases, pile)
	}
	x := yardTold{fewE: api.ErrEmpty}
	for _, pile := range pilesOf(y) {
		if !stands[keyOf(pile)] {
			continue
		}
		if len(pile) == len(y.Parcels) {
			x.count++
		}
		if len(pile) > len(x.most) {
			x.most = pile
		}
	}
	for _, piles := range sharesOf(len(y.Parcels)) {
		if slices.ContainsFunc(piles, func(pile ints) bool { return !stands[keyOf(pile)] }) {
			continue
		}
		if x.fewE != api.OK || len(piles) < len(x.few) || len(piles) == len(x.few) && slices.CompareFunc(piles, x.few, slices.Compare[ints]) < 0 {
			x.few, x.fewE = piles, api.OK
		}
	}
	return x
}

// keyOf returns what tells the pile from all others.
func keyOf(pile ints) (key [api.PilePieces + 1]int) {
	copy(key[:], append(slices.Clone(pile), -1))
	return key
}

// sharesOf returns all lists of piles that begin with greater and greater
// numbers, in which each of so many pieces is once: all orders, cut in all ways.
func sharesOf(pieces int) [][]ints {
	var all [][]ints
	for _, order := range ordersOf(pieces, pieces) {
		for cuts := range 1 << max(pieces-1, 0) {
			var piles []ints
			for i, piece := range order {
				if i == 0 || cuts>>(i-1)&1 == 1 {
					piles = append(piles, nil)
				}
				last := &piles[len(piles)-1]
				*last = append(*last, piece)
			}
			if slices.IsSortedFunc(piles, func(a, b ints) int { return a[0] - b[0] }) {
				all = append(all, piles)
			}
		}
	}
	return all
}

// drawn returns a valid yard of at most so many pieces, whose weights are known
// but for so much more at most.
func drawn(rng *rand.Rand, pieces, more int) api.Yard {
	y := yardOf(1 + rng.IntN(api.PileLimit))
	if rng.IntN(2) == 0 {
		y.Limit = api.PileLimit
	}
	heaviest, tallest := 1+rng.IntN(api.PileWeight), 1+rng.IntN(api.PileTall)
	strongest := 1 + rng.IntN(api.PileBears)
	for range pieces - min(rng.IntN(pieces+1), rng.IntN(pieces+1)) {
		from := 1 + rng.IntN(heaviest)
		to := min(from+rng.IntN(more+1), api.PileWeight)
		y.Parcels = append(y.Parcels, parcel(from, to, rng.IntN(strongest+1), 1+rng.IntN(tallest)))
	}
	return y
}

// pileOf returns some pieces of the yard, in some order, that are not too high.
func pileOf(rng *rand.Rand, y api.Yard) ints {
	pile := rng.Perm(len(y.Parcels))
	pile = pile[:len(pile)-min(rng.IntN(len(pile)+1), rng.IntN(len(pile)+1))]
	for tallOf(y, pile) > y.Limit {
		pile = pile[1:]
	}
	return pile
}

// draws calls try with many valid yards and piles, always the same ones.
func draws(count, pieces, more int, try func(rng *rand.Rand, y api.Yard, pile ints)) {
	rng := rand.New(rand.NewPCG(4, uint64(count)))
	for range count {
		y := drawn(rng, pieces, more)
		try(rng, y, pileOf(rng, y))
	}
}

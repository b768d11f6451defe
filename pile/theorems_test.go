package pile_test

import (
	"fmt"
	"math/rand/v2"
	"slices"
	"testing"

	"gladstone/api"
	"gladstone/pile"
)

// sure returns a result that comes without an error.
func sure[T any](x T, e api.Errno) T {
	if e != api.OK {
		panic(e)
	}
	return x
}

// P4.1 to P4.6, P4.10: what all cases say of a pile.
func TestAllCases(t *testing.T) {
	draws(3000, 5, 2, func(rng *rand.Rand, y api.Yard, p ints) {
		x, what := tellOf(y, p), fmt.Sprint(" ", y, p)
		says(t, "Loads"+what, fmt.Sprint(pile.Loads(y, p)), x.loads, api.OK)
		says(t, "Crushed"+what, fmt.Sprint(pile.Crushed(y, p)), x.crushed, api.OK)
		says(t, "Stands"+what, fmt.Sprint(pile.Stands(y, p)), x.stands, api.OK)
		says(t, "Spare"+what, fmt.Sprint(pile.Spare(y, p)), x.spare, x.spareE)
		says(t, "On"+what, fmt.Sprint(pile.On(y, p)), x.on, api.OK)
		says(t, "Weigh"+what, fmt.Sprint(pile.Weigh(y, p)), x.weigh, api.OK)
		says(t, "Mend"+what, fmt.Sprint(pile.Mend(y, p)), x.exchanges, x.mended, x.mendE)
		says(t, "Order"+what, fmt.Sprint(pile.Order(y, p)), x.order, x.mendE)
		if t.Failed() {
			t.FailNow()
		}
	})
}

// P4.6 to P4.8, P4.17: what all piles say of a yard.
func TestAllPiles(t *testing.T) {
	draws(600, 5, 2, func(rng *rand.Rand, y api.Yard, p ints) {
		x, what := tellYard(y), fmt.Sprint(" ", y)
		says(t, "Count"+what, fmt.Sprint(pile.Count(y)), x.count, api.OK)
		says(t, "Most"+what, fmt.Sprint(pile.Most(y)), x.most, api.OK)
		says(t, "Fewest"+what, fmt.Sprint(pile.Fewest(y)), x.few, x.fewE)
		if t.Failed() {
			t.FailNow()
		}
	})
}

// P4.9, P4.10: loads, all.
func TestLoad(t *testing.T) {
	draws(2000, 5, 5, func(rng *rand.Rand, y api.Yard, p ints) {
		load := band(0, 0)
		for place, its := range slices.Backward(sure(pile.Loads(y, p))) {
			if its != load {
				t.Fatal("Loads", y, p, place, its, load)
			}
			weight := y.Parcels[p[place]].Weight
			load = band(load.Min+weight.Min, load.Max+weight.Max)
		}
		crushed, all := sure(pile.Crushed(y, p)), true
		for _, v := range crushed {
			all = all && v == api.NoWay
		}
		if v := sure(pile.Stands(y, p)); all != (v == api.Always) || slices.Contains(crushed, api.Always) && v != api.NoWay {
			t.Fatal("Stands", y, p, v, crushed)
		}
	})
}

// P4.11: off.
func TestOff(t *testing.T) {
	draws(2000, 5, 5, func(rng *rand.Rand, y api.Yard, p ints) {
		if len(p) == 0 {
			return
		}
		v, off := sure(pile.Stands(y, p)), sure(pile.Stands(y, p[:len(p)-1]))
		if worse(off, v) {
			t.Fatal(y, p, v, off)
		}
	})
}

// worse returns whether it is worse that a pile stands as the verdict a says than as b says.
func worse(a, b int) bool {
	rank := map[int]int{api.Always: 0, api.Perhaps: 1, api.NoWay: 2}
	return rank[a] > rank[b]
}

// P4.12: spare.
func TestSpareOnTop(t *testing.T) {
	draws(3000, 4, 3, func(rng *rand.Rand, y api.Yard, p ints) {
		spare, e := pile.Spare(y, p)
		if none := len(p) == 0 || sure(pile.Stands(y, p)) == api.NoWay; none != (e == api.ErrEmpty) {
			t.Fatal("Spare", y, p, spare, e)
		}
		if e != api.OK || tallOf(y, p) == y.Limit {
			return
		}
		for weight := range api.PileWeight {
			more := sure(pile.Add(y, parcel(weight+1, weight+1, rng.IntN(api.PileBears+1), 1)))
			v := api.NoWay
			switch {
			case weight < spare.Min:
				v = api.Always
			case weight < spare.Max:
				v = api.Perhaps
			}
			says(t, fmt.Sprint("Stands ", more, p), fmt.Sprint(pile.Stands(more, longer(p, len(y.Parcels)))), v, api.OK)
		}
	})
}

// P4.13: on.
func TestOnTop(t *testing.T) {
	draws(3000, 5, 3, func(rng *rand.Rand, y api.Yard, p ints) {
		if len(p) == 0 {
			return
		}
		spare, e := pile.Spare(y, p)
		if e != api.OK {
			spare.Min = -1
		}
		var on ints
		for piece, x := range y.Parcels {
			if !slices.Contains(p, piece) && x.Weight.Max <= spare.Min && tallOf(y, p)+x.Tall <= y.Limit {
				on = append(on, piece)
			}
		}
		says(t, fmt.Sprint("On ", y, p), fmt.Sprint(pile.On(y, p)), on, api.OK)
	})
}

// P4.14: weigh.
func TestWeighed(t *testing.T) {
	draws(600, 5, 3, func(rng *rand.Rand, y api.Yard, p ints) {
		pieces := sure(pile.Weigh(y, p))
		for _, other := range listsOf(p) {
			sure := settled(y, p, other)
			if slices.Equal(other, pieces) {
				if !sure {
					t.Fatal("in doubt", y, p, pieces)
				}
				return
			}
			if sure {
				t.Fatal("not the first", y, p, pieces, other)
			}
		}
	})
}

// settled returns whether Stands is not Perhaps, whatever the pieces weigh.
func settled(y api.Yard, p, pieces ints) bool {
	if len(pieces) == 0 {
		return sure(pile.Stands(y, p)) != api.Perhaps
	}
	for _, weight := range weightsOf(y.Parcels[pieces[0]]) {
		if !settled(weighed(y, pieces[0], weight), p, pieces[1:]) {
			return false
		}
	}
	return true
}

// P4.15, P4.16: mend, order.
func TestMended(t *testing.T) {
	draws(1500, 5, 2, func(rng *rand.Rand, y api.Yard, p ints) {
		n, mended, e := pile.Mend(y, p)
		order, f := pile.Order(y, p)
		if e != f || f == api.OK && sure(pile.Stands(y, order)) != api.Always {
			t.Fatal(y, p, e, order, f)
		}
		if e != api.OK {
			return
		}
		if sure(pile.Stands(y, mended)) != api.Always || swappedPairs(p, mended) != n {
			t.Fatal(y, p, n, mended)
		}
		for _, other := range othersOf(p) {
			if sure(pile.Stands(y, other)) != api.Always {
				continue
			}
			if k := swappedPairs(p, other); k < n || k == n && slices.Compare(other, mended) < 0 || slices.Compare(other, order) < 0 {
				t.Fatal(y, p, n, mended, order, k, other)
			}
		}
	})
}

// P4.17, P4.18, P4.19: count, most, fewest.
func TestPilesOf(t *testing.T) {
	draws(600, 5, 3, func(rng *rand.Rand, y api.Yard, p ints) {
		most, count := sure(pile.Most(y)), 0
		for _, other := range pilesOf(y) {
			v, e := pile.Stands(y, other)
			if e != api.OK || v != api.Always {
				if slices.Equal(other, most) {
					t.Fatal("Most", y, most)
				}
				continue
			}
			if len(other) > len(most) {
				t.Fatal("Most", y, most, other)
			}
			if len(other) == len(y.Parcels) {
				count++
			}
		}
		if count != sure(pile.Count(y)) {
			t.Fatal("Count", y, count)
		}
		few, e := pile.Fewest(y)
		if high := slices.ContainsFunc(y.Parcels, func(p api.Parcel) bool { return p.Tall > y.Limit }); high != (e == api.ErrEmpty) {
			t.Fatal("Fewest", y, few, e)
		}
		if (len(few) == 1) != (count > 0) && len(y.Parcels) > 0 {
			t.Fatal("one", y, few, count)
		}
		for _, one := range few {
			if sure(pile.Stands(y, one)) != api.Always {
				t.Fatal("Fewest", y, few, one)
			}
		}
		if all := slices.Sorted(slices.Values(slices.Concat(few...))); e == api.OK && !slices.Equal(all, othersOf(rng.Perm(len(y.Parcels)))[0]) {
			t.Fatal("all", y, few, all)
		}
	})
}

// P4.20: stronger.
func TestStronger(t *testing.T) {
	draws(3000, 5, 5, func(rng *rand.Rand, y api.Yard, p ints) {
		if len(p) == 0 {
			return
		}
		piece := p[rng.IntN(len(p))]
		stronger := with(y, func(y *api.Yard) {
			y.Parcels[piece].Bears = min(api.PileBears, y.Parcels[piece].Bears+1+rng.IntN(5))
		})
		surer := with(y, func(y *api.Yard) {
			its := &y.Parcels[piece].Weight
			its.Min += rng.IntN(its.Max - its.Min + 1)
			its.Max -= rng.IntN(its.Max - its.Min + 1)
		})
		now := sure(pile.Stands(y, p))
		if v := sure(pile.Stands(stronger, p)); worse(v, now) {
			t.Fatal("stronger", y, p, now, v)
		}
		if v := sure(pile.Stands(surer, p)); now != api.Perhaps && v != now {
			t.Fatal("surer", y, p, now, v)
		}
		for place, v := range sure(pile.Crushed(y, p)) {
			if its := sure(pile.Crushed(stronger, p))[place]; worse(v, its) {
				t.Fatal("stronger", y, p, place, v, its)
			}
			if its := sure(pile.Crushed(surer, p))[place]; v != api.Perhaps && its != v {
				t.Fatal("surer", y, p, place, v, its)
			}
		}
	})
}

// P4.21: numbered.
func TestNumbered(t *testing.T) {
	draws(600, 5, 3, func(rng *rand.Rand, y api.Yard, p ints) {
		number := rng.Perm(len(y.Parcels))
		other := with(y, func(x *api.Yard) {
			for piece, its := range y.Parcels {
				x.Parcels[number[piece]] = its
			}
		})
		few, e := pile.Fewest(y)
		others, f := pile.Fewest(other)
		if len(few) != len(others) || e != f {
			t.Fatal("Fewest", y, other, few, others, e, f)
		}
		if len(sure(pile.Most(y))) != len(sure(pile.Most(other))) || sure(pile.Count(y)) != sure(pile.Count(other)) {
			t.Fatal(y, other)
		}
	})
}

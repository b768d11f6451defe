package key_test

import (
	"math/rand/v2"
	"slices"

	"gladstone/api"
)

type (
	ints  = []int
	rows  = [][]int
	bands = []api.Band
	tries = []api.Try
	turns = []api.Turn
)

// of returns a key from its least and its greatest wear, lock the bands of a
// lock from the least and the greatest depth of each cut.
func of(least, most int, cuts ...int) api.Key {
	return api.Key{Cuts: cuts, Wear: api.Band{Min: least, Max: most}}
}

func lock(l ...int) bands {
	var all bands
	for i := 0; i < len(l); i += 2 {
		all = append(all, api.Band{Min: l[i], Max: l[i+1]})
	}
	return all
}

func tried(key, lock int, opens bool) api.Try { return api.Try{Key: key, Lock: lock, Opens: opens} }

func turned(key int, opens bool) api.Turn { return api.Turn{Key: key, Opens: opens} }

// ringR, ringS, ringU, ringOne and ringTwo are R, S, U, One and Two of the chapter's examples.
func ringR(l ...api.Try) api.Ring {
	return api.Ring{
		Cuts:  2,
		Keys:  []api.Key{of(0, 1, 3, 1), of(0, 0, 2, 2), of(0, 2, 1, 3)},
		Locks: []bands{lock(2, 3, 0, 1), lock(2, 2, 1, 2), lock(0, 1, 2, 3)},
		Tries: l,
	}
}

func ringS() api.Ring { return ringR(tried(2, 2, true)) }

func ringU() api.Ring { return ringR(tried(1, 1, false)) }

func ringOne() api.Ring { return with(ringR(), func(r *api.Ring) { r.Keys = r.Keys[1:2] }) }

func ringTwo() api.Ring { return with(ringR(), func(r *api.Ring) { r.Locks = r.Locks[:2] }) }

// with returns a copy of a ring with a change.
func with(r api.Ring, change func(r *api.Ring)) api.Ring {
	r.Keys, r.Locks, r.Tries = slices.Clone(r.Keys), slices.Clone(r.Locks), slices.Clone(r.Tries)
	for i, k := range r.Keys {
		r.Keys[i].Cuts = slices.Clone(k.Cuts)
	}
	for i, l := range r.Locks {
		r.Locks[i] = slices.Clone(l)
	}
	change(&r)
	return r
}

// longer returns a new list with one element more.
func longer[T any](l []T, x T) []T { return append(slices.Clone(l), x) }

// wornOf returns the depths of a key's cuts that are worn by a number.
func wornOf(cuts ints, wear int) ints {
	var l ints
	for _, depth := range cuts {
		l = append(l, max(depth-wear, 0))
	}
	return l
}

// openOf returns whether depths open a lock.
func openOf(l bands, depths ints) bool {
	for cut, b := range l {
		if depths[cut] < b.Min || depths[cut] > b.Max {
			return false
		}
	}
	return true
}

// opens returns whether a key opens a lock if keys are worn by these numbers.
func opens(r api.Ring, t ints, key, lock int) bool {
	return openOf(r.Locks[lock], wornOf(r.Keys[key].Cuts, t[key]))
}

// isTruth returns whether numbers are a truth.
func isTruth(r api.Ring, t ints) bool {
	for key, wear := range t {
		if b := r.Keys[key].Wear; wear < b.Min || wear > b.Max {
			return false
		}
	}
	return !slices.ContainsFunc(r.Tries, func(x api.Try) bool { return opens(r, t, x.Key, x.Lock) != x.Opens })
}

// lists returns all lists of so many numbers from 0 up to a number, in lexicographic order.
func lists(length, to int) rows {
	all := rows{nil}
	for range length {
		var more rows
		for _, l := range all {
			for n := range to + 1 {
				more = append(more, longer(l, n))
			}
		}
		all = more
	}
	return all
}

// truthsOf returns the truths: of all lists of numbers those that are ones.
func truthsOf(r api.Ring) rows {
	return slices.DeleteFunc(lists(len(r.Keys), api.KeyWear), func(t ints) bool { return !isTruth(r, t) })
}

// groups returns all lists of some of so many numbers, those of fewer before
// others, and otherwise in lexicographic order.
func groups(length int) rows {
	all := rows{nil}
	for n := range length {
		for _, l := range all {
			all = append(all, longer(l, n))
		}
	}
	slices.SortFunc(all, before)
	return all
}

// before compares lists of fewest.
func before(a, b ints) int {
	if len(a) != len(b) {
		return len(a) - len(b)
	}
	return slices.Compare(a, b)
}

// skipping returns a ring without some tries.
func skipping(r api.Ring, wrong ints) api.Ring {
	return with(r, func(x *api.Ring) {
		x.Tries = nil
		for i, y := range r.Tries {
			if !slices.Contains(wrong, i) {
				x.Tries = append(x.Tries, y)
			}
		}
	})
}

// openers returns those of the keys that open a lock in a truth.
func openers(r api.Ring, t, keys ints, lock int) ints {
	var l ints
	for _, key := range keys {
		if opens(r, t, key, lock) {
			l = append(l, key)
		}
	}
	return l
}

// coverOf returns whether one of the keys opens each lock in a truth.
func coverOf(r api.Ring, t, keys ints) bool {
	for lock := range r.Locks {
		if len(openers(r, t, keys, lock)) == 0 {
			return false
		}
	}
	return true
}

// tellOf returns whether one of the keys tells any two locks apart in a truth.
func tellOf(r api.Ring, t, keys ints) bool {
	for a := range r.Locks {
		for b := range r.Locks {
			if a != b && slices.Equal(openers(r, t, keys, a), openers(r, t, keys, b)) {
				return false
			}
		}
	}
	return true
}

// all returns whether it is so of all elements.
func all[T any](l []T, is func(T) bool) bool {
	return !slices.ContainsFunc(l, func(x T) bool { return !is(x) })
}

// everyKey returns the numbers of all keys.
func everyKey(r api.Ring) ints {
	var l ints
	for key := range r.Keys {
		l = append(l, key)
	}
	return l
}

// alikeOf returns whether no key ever tells two locks apart.
func alikeOf(r api.Ring, truths rows, a, b int) bool {
	keys := everyKey(r)
	return all(truths, func(t ints) bool {
		return slices.Equal(openers(r, t, keys, a), openers(r, t, keys, b))
	})
}

// holds returns the greatest number up to which depths can be worn, and open all locks; -1 if they do not.
func holds(r api.Ring, depths ints) int {
	for wear := range api.KeyWear + 1 {
		if !all(r.Locks, func(l bands) bool { return openOf(l, wornOf(depths, wear)) }) {
			return wear - 1
		}
	}
	return api.KeyWear
}

// list is a list that may not be there.
type list struct {
	numbers ints
	e       api.Errno
}

func some(l ...int) list { return list{l, api.OK} }

func nothing() list { return list{e: api.ErrEmpty} }

// firstOf returns the first one in the order of lists of which it is so.
func firstOf(l rows, is func(ints) bool) list {
	i := slices.IndexFunc(l, is)
	if i < 0 {
		return nothing()
	}
	return some(l[i]...)
}

// told is what all truths of a ring say.
type told struct {
	count        int
	opens, wears rows // for each key: a verdict for each lock, and by what it can be worn
	wrong        ints
	ask          list // a key, a lock, and the number of truths
	cover        list
	alike        ints
	tell         list
	master       list
	wear         int // of master
}

// toldOf returns what all truths of the ring say.
func toldOf(r api.Ring) told {
	truths := truthsOf(r)
	x := told{count: len(truths)}
	x.wrong = firstOf(groups(len(r.Tries)), func(l ints) bool { return len(truthsOf(skipping(r, l))) > 0 }).numbers
	x.master = nothing()
	for _, depths := range lists(r.Cuts, api.KeyDepth) {
		if wear := holds(r, depths); wear >= 0 && (x.master.e != api.OK || wear > x.wear) {
			x.master, x.wear = some(depths...), wear
		}
	}
	if len(truths) == 0 {
		x.ask, x.cover, x.tell = nothing(), nothing(), nothing()
		return x
	}
	x.opens, x.ask = opensOf(r, truths)
	for key := range r.Keys {
		var l ints
		for _, t := range truths {
			l = append(l, t[key])
		}
		slices.Sort(l)
		x.wears = append(x.wears, slices.Compact(l))
	}
	keys := groups(len(r.Keys))
	x.cover = firstOf(keys, func(l ints) bool {
		return all(truths, func(t ints) bool { return coverOf(r, t, l) })
	})
	x.tell = firstOf(keys, func(l ints) bool {
		return all(truths, func(t ints) bool { return tellOf(r, t, l) })
	})
	for a := range r.Locks {
		x.alike = append(x.alike, numberOf(r, truths, x.alike, a))
	}
	return x
}

// numberOf returns the number of a lock, if those before it have these ones.
func numberOf(r api.Ring, truths rows, before ints, lock int) int {
	for other, number := range before {
		if alikeOf(r, truths, lock, other) {
			return number
		}
	}
	number := 0
	for slices.Contains(before, number) {
		number++
	}
	return number
}

// opensOf returns a verdict for each key and each lock, and what should be tried.
func opensOf(r api.Ring, truths rows) (verdicts rows, ask list) {
	ask, left := nothing(), len(truths)
	for key := range r.Keys {
		var l ints
		for lock := range r.Locks {
			yes := 0
			for _, t := range truths {
				if opens(r, t, key, lock) {
					yes++
				}
			}
			switch no := len(truths) - yes; {
			case no == 0:
				l = append(l, api.Always)
			case yes == 0:
				l = append(l, api.NoWay)
			default:
				l = append(l, api.Perhaps)
			}
			if most := max(yes, len(truths)-yes); most < left {
				ask, left = some(key, lock, most), most
			}
		}
		verdicts = append(verdicts, l)
	}
	return verdicts, ask
}

// whichOf returns the locks that a bag can have: there is a truth with the turns as tries.
func whichOf(r api.Ring, l turns) ints {
	var locks ints
	for lock := range r.Locks {
		tried := with(r, func(r *api.Ring) {
			for _, x := range l {
				r.Tries = append(r.Tries, api.Try{Key: x.Key, Lock: lock, Opens: x.Opens})
			}
		})
		if len(truthsOf(tried)) > 0 {
			locks = append(locks, lock)
		}
	}
	return locks
}

// cutOf returns the first depths that open just these locks.
func cutOf(r api.Ring, locks ints) list {
	return firstOf(lists(r.Cuts, api.KeyDepth), func(depths ints) bool {
		for i, l := range r.Locks {
			if openOf(l, depths) != slices.Contains(locks, i) {
				return false
			}
		}
		return true
	})
}

// drawn returns a valid ring. Most tries are told as they were in one truth.
func drawn(rng *rand.Rand) api.Ring {
	r := api.Ring{Cuts: 1 + min(rng.IntN(api.KeyCuts), rng.IntN(api.KeyCuts), rng.IntN(api.KeyCuts))}
	worn, wide := rng.IntN(api.KeyWear+1), rng.IntN(api.KeyDepth+1)
	between := func(to, width int) api.Band {
		least := rng.IntN(to + 1)
		return api.Band{Min: least, Max: min(to, least+rng.IntN(width+1))}
	}
	var truth ints
	for range min(api.KeyKeys, rng.IntN(api.KeyKeys+5)) {
		k := api.Key{Wear: between(api.KeyWear, worn)}
		for range r.Cuts {
			k.Cuts = append(k.Cuts, rng.IntN(api.KeyDepth+1))
		}
		r.Keys = append(r.Keys, k)
		truth = append(truth, k.Wear.Min+rng.IntN(k.Wear.Max-k.Wear.Min+1))
	}
	for range min(api.KeyLocks, rng.IntN(api.KeyLocks+3)) {
		var l bands
		for range r.Cuts {
			b := between(api.KeyDepth, wide)
			if rng.IntN(2) == 0 {
				b.Min = max(0, b.Min-wide)
			}
			l = append(l, b)
		}
		if len(r.Locks) > 0 && rng.IntN(8) == 0 {
			l = slices.Clone(r.Locks[0])
		}
		r.Locks = append(r.Locks, l)
	}
	if len(r.Keys) == 0 || len(r.Locks) == 0 {
		return r
	}
	lies := 2 + rng.IntN(12)
	for range max(0, rng.IntN(2*api.KeyTries)-api.KeyTries+1) {
		key, lock := rng.IntN(len(r.Keys)), rng.IntN(len(r.Locks))
		r.Tries = append(r.Tries, tried(key, lock, opens(r, truth, key, lock) != (rng.IntN(lies) == 0)))
	}
	return r
}

// draws calls try with many valid rings, always the same ones.
func draws(count int, try func(rng *rand.Rand, r api.Ring)) {
	rng := rand.New(rand.NewPCG(8, uint64(count)))
	for range count {
		try(rng, drawn(rng))
	}
}

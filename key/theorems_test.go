package key_test

import (
	"fmt"
	"math/rand/v2"
	"slices"
	"testing"

	"gladstone/api"
	"gladstone/key"
)

// sure returns a result that comes without an error.
func sure[T any](x T, e api.Errno) T {
	if e != api.OK {
		panic(e)
	}
	return x
}

// enough reports a test that had too few cases.
func enough(t *testing.T, cases, least int) {
	t.Helper()
	if cases < least {
		t.Error("too few cases:", cases)
	}
}

// in returns a ring of which a truth is known: each key is worn by its number.
func in(r api.Ring, truth ints) api.Ring {
	return with(r, func(r *api.Ring) {
		for i, wear := range truth {
			r.Keys[i].Wear = api.Band{Min: wear, Max: wear}
		}
	})
}

// openAll returns whether one of the keys always opens each lock.
func openAll(r api.Ring, keys ints) bool {
	for lock := range r.Locks {
		if !slices.ContainsFunc(keys, func(k int) bool { return sure(key.Opens(r, k, lock)) == api.Always }) {
			return false
		}
	}
	return true
}

// tellAny returns whether for any two locks one of the keys opens just one, if all is known.
func tellAny(r api.Ring, keys ints) bool {
	for a := range r.Locks {
		for b := range a {
			if !slices.ContainsFunc(keys, func(k int) bool { return sure(key.Opens(r, k, a)) != sure(key.Opens(r, k, b)) }) {
				return false
			}
		}
	}
	return true
}

// P8.10: worn.
func TestWornLess(t *testing.T) {
	draws(2000, func(rng *rand.Rand, r api.Ring) {
		for i, k := range r.Keys {
			for wear := range api.KeyWear + 1 {
				l := sure(key.Worn(r, i, wear))
				says(t, fmt.Sprint("Worn ", r, i, wear), fmt.Sprint(l), wornOf(k.Cuts, wear))
				for cut, depth := range k.Cuts {
					if l[cut] > depth || l[cut] < depth-wear || l[cut] < 0 || wear == 0 && l[cut] != depth {
						t.Fatal("Worn", r, i, wear, l)
					}
				}
			}
		}
	})
}

// P8.1 to P8.9, P8.11: what all truths say.
func TestAll(t *testing.T) {
	asked, lies, covered, apart, open := 0, 0, 0, 0, 0
	draws(4000, func(rng *rand.Rand, r api.Ring) {
		x := toldOf(r)
		tellsAll(t, fmt.Sprint(" ", r), r, x)
		if t.Failed() {
			t.FailNow()
		}
		is := func(so bool, n *int) {
			if so {
				*n++
			}
		}
		is(x.ask.e == api.OK, &asked)
		is(x.count == 0, &lies)
		is(x.cover.e == api.OK && len(x.cover.numbers) > 1, &covered)
		is(x.tell.e == api.OK && len(x.tell.numbers) > 1, &apart)
		is(x.wear > 0 && len(r.Locks) > 1, &open)
	})
	enough(t, asked, 400)
	enough(t, lies, 400)
	enough(t, covered, 100)
	enough(t, apart, 100)
	enough(t, open, 400)
}

// The largest rings.
func TestLargest(t *testing.T) {
	a := largest()
	x := toldOf(a.r)
	if x.count == 0 || x.count == 81 {
		t.Error("no truth, or all:", x.count)
	}
	tellsAll(t, " of the largest ring", a.r, x)
	wide := with(a.r, func(r *api.Ring) {
		for i := range r.Locks {
			r.Locks[i] = lock(0, 3, 0, 3, 0, 3, 0, 3)
		}
		r.Tries = make(tries, 6)
	})
	tellsAll(t, " of a ring without a truth", wide, toldOf(wide))
	says(t, "Wrong", fmt.Sprint(key.Wrong(wide)), ints{0, 1, 2, 3, 4, 5}, api.OK)
	wide.Tries = slices.Repeat(tries{tried(0, 0, true)}, 6)
	tellsAll(t, " of a ring of which all is open", wide, toldOf(wide))
	says(t, "Count", fmt.Sprint(key.Count(wide)), 81, api.OK)
}

// P8.12: true.
func TestTrue(t *testing.T) {
	cases := 0
	draws(3000, func(rng *rand.Rand, r api.Ring) {
		all := truthsOf(skipping(r, ints{0, 1, 2, 3, 4, 5}))
		truth := all[rng.IntN(len(all))]
		for i, x := range r.Tries {
			r.Tries[i].Opens = opens(r, truth, x.Key, x.Lock)
		}
		for k, wear := range truth {
			cases++
			if !slices.Contains(sure(key.Wears(r, k)), wear) {
				t.Fatal("Wears", r, truth, k)
			}
			for lock := range r.Locks {
				verdict := sure(key.Opens(r, k, lock))
				if is := opens(r, truth, k, lock); is && verdict == api.NoWay || !is && verdict == api.Always {
					t.Fatal("Opens", r, truth, k, lock, verdict)
				}
			}
		}
	})
	enough(t, cases, 3000)
}

// P8.13: wrong.
func TestWithout(t *testing.T) {
	wrong := 0
	draws(3000, func(rng *rand.Rand, r api.Ring) {
		l := sure(key.Wrong(r))
		if sure(key.Count(skipping(r, l))) == 0 {
			t.Fatal("no truth without", r, l)
		}
		if len(l) > 0 {
			wrong++
		}
		for _, other := range groups(len(r.Tries)) {
			if before(other, l) < 0 && sure(key.Count(skipping(r, other))) > 0 {
				t.Fatal("comes before", r, l, other)
			}
		}
	})
	enough(t, wrong, 400)
}

// after returns the greatest number of truths that remain if a key is tried in a lock.
func after(t *testing.T, r api.Ring, k, lock int) int {
	most := 0
	for _, opens := range []bool{false, true} {
		added, e := key.Add(r, tried(k, lock, opens))
		switch e {
		case api.OK:
			most = max(most, sure(key.Count(added)))
		case api.ErrContrary:
		default:
			t.Fatal("Add", r, k, lock, opens, e)
		}
	}
	return most
}

// P8.14: ask.
func TestQuestion(t *testing.T) {
	asked := 0
	draws(3000, func(rng *rand.Rand, r api.Ring) {
		count := sure(key.Count(r))
		if count == 0 || len(r.Tries) == api.KeyTries {
			return
		}
		k, lock, left, e := key.Ask(r)
		if e != api.OK {
			left = count
		} else if asked++; after(t, r, k, lock) != left || left >= count {
			t.Fatal("Ask", r, k, lock, left)
		}
		for other := range r.Keys {
			for in := range r.Locks {
				n := after(t, r, other, in)
				if n < left || e == api.OK && n == left && (other < k || other == k && in < lock) {
					t.Fatal("better, or before", r, k, lock, left, other, in, n)
				}
			}
		}
	})
	enough(t, asked, 300)
}

// P8.15, P8.17: cover and tell.
func TestCoverTell(t *testing.T) {
	for name, x := range map[string]struct {
		keys func(api.Ring) (ints, api.Errno)
		are  func(api.Ring, ints) bool
	}{"Cover": {key.Cover, openAll}, "Tell": {key.Tell, tellAny}} {
		some := 0
		draws(2000, func(rng *rand.Rand, r api.Ring) {
			truths := truthsOf(r)
			if len(truths) == 0 {
				return
			}
			in := func(keys ints) bool {
				return all(truths, func(truth ints) bool { return x.are(in(skipping(r, ints{0, 1, 2, 3, 4, 5}), truth), keys) })
			}
			l, e := x.keys(r)
			if e == api.OK && !in(l) || e == api.ErrEmpty && in(everyKey(r)) {
				t.Fatal(name, r, l, e)
			}
			if e != api.OK {
				return
			}
			some++
			for _, other := range groups(len(r.Keys)) {
				if before(other, l) < 0 && in(other) {
					t.Fatal(name, " comes before", r, l, other)
				}
			}
		})
		enough(t, some, 300)
	}
}

// P8.16: alike; P8.17: no keys tell locks that are alike in a truth.
func TestAlikeLocks(t *testing.T) {
	same := 0
	draws(3000, func(rng *rand.Rand, r api.Ring) {
		numbers, e := key.Alike(r)
		if e != api.OK {
			return
		}
		for a := range r.Locks {
			for b := range a {
				if slices.Equal(r.Locks[a], r.Locks[b]) && numbers[a] != numbers[b] {
					t.Fatal("equal locks", r, numbers)
				}
				if numbers[a] != numbers[b] {
					continue
				}
				same++
				for k := range r.Keys {
					if sure(key.Opens(r, k, a)) != sure(key.Opens(r, k, b)) {
						t.Fatal("opened by another key", r, numbers, k)
					}
				}
			}
		}
		alike := false
		for _, truth := range truthsOf(r) {
			numbers := sure(key.Alike(in(r, truth)))
			slices.Sort(numbers)
			alike = alike || len(slices.Compact(numbers)) < len(r.Locks)
		}
		if _, e := key.Tell(r); (e == api.OK) == alike {
			t.Fatal("Tell", r, e, alike)
		}
	})
	enough(t, same, 1000)
}

// P8.7, P8.18: which.
func TestBags(t *testing.T) {
	cases, none := 0, 0
	draws(3000, func(rng *rand.Rand, r api.Ring) {
		truths := truthsOf(r)
		if len(truths) == 0 || len(r.Keys) == 0 {
			return
		}
		truth, bag := truths[rng.IntN(len(truths))], 0
		if len(r.Locks) > 0 {
			bag = rng.IntN(len(r.Locks))
		}
		var honest, any turns
		var before ints
		for range api.KeyTries {
			k := rng.IntN(len(r.Keys))
			if len(r.Locks) > 0 {
				honest = append(honest, turned(k, opens(r, truth, k, bag)))
				if l := sure(key.Which(r, honest)); !slices.Contains(l, bag) {
					t.Fatal("told as they were", r, truth, bag, honest, l)
				}
			}
			any = append(any, turned(k, rng.IntN(2) == 0))
			l := sure(key.Which(r, any))
			says(t, fmt.Sprint("Which ", r, any), fmt.Sprint(l), whichOf(r, any))
			if len(any) > 1 && !all(l, func(lock int) bool { return slices.Contains(before, lock) }) {
				t.Fatal("brought back", r, any, before, l)
			}
			before = l
			cases++
			if len(l) == 0 && len(r.Locks) > 0 {
				none++
			}
		}
		if t.Failed() {
			t.FailNow()
		}
	})
	enough(t, cases, 3000)
	enough(t, none, 500)
}

// P8.8, P8.19: cut.
func TestCuts(t *testing.T) {
	found := 0
	draws(1500, func(rng *rand.Rand, r api.Ring) {
		for _, locks := range groups(len(r.Locks)) {
			rng.Shuffle(len(locks), func(i, k int) { locks[i], locks[k] = locks[k], locks[i] })
			want := cutOf(r, locks)
			says(t, fmt.Sprint("Cut ", r, locks), fmt.Sprint(key.Cut(r, locks)), want.numbers, want.e)
			if want.e != api.OK {
				continue
			}
			found++
			if len(r.Keys) == api.KeyKeys {
				continue
			}
			more := with(r, func(r *api.Ring) { r.Keys, r.Tries = append(r.Keys, of(0, 0, want.numbers...)), nil })
			for lock := range r.Locks {
				if is := sure(key.Opens(more, len(r.Keys), lock)) == api.Always; is != slices.Contains(locks, lock) {
					t.Fatal("opens", r, locks, want, lock)
				}
			}
		}
		if t.Failed() {
			t.FailNow()
		}
	})
	enough(t, found, 2000)
}

// P8.8, P8.20: master.
func TestLongest(t *testing.T) {
	lasting := map[int]int{}
	draws(3000, func(rng *rand.Rand, r api.Ring) {
		cuts, wear, e := key.Master(r)
		if e != api.OK {
			wear = -1
		} else if holds(r, cuts) != wear {
			t.Fatal("Master", r, cuts, wear)
		}
		lasting[wear]++
		for _, depths := range lists(r.Cuts, api.KeyDepth) {
			n := holds(r, depths)
			if n > wear || e == api.OK && n == wear && slices.Compare(depths, cuts) < 0 {
				t.Fatal("longer, or before", r, cuts, wear, depths)
			}
		}
	})
	for wear := range api.KeyWear + 2 {
		enough(t, lasting[wear-1], 100)
	}
}

// P8.9, P8.21: one try more.
func TestOneMore(t *testing.T) {
	added, contrary := 0, 0
	draws(4000, func(rng *rand.Rand, r api.Ring) {
		if len(r.Keys) == 0 || len(r.Locks) == 0 || len(r.Tries) == api.KeyTries {
			return
		}
		x := tried(rng.IntN(len(r.Keys)), rng.IntN(len(r.Locks)), rng.IntN(2) == 0)
		want := with(r, func(r *api.Ring) { r.Tries = append(r.Tries, x) })
		many, few := len(truthsOf(r)), len(truthsOf(want))
		more, e := key.Add(r, x)
		if many > 0 && few == 0 {
			contrary++
			says(t, fmt.Sprint("Add ", r, x), fmt.Sprint(more, e), api.Ring{}, api.ErrContrary)
			return
		}
		says(t, fmt.Sprint("Add ", r, x), fmt.Sprint(more, e), want, api.OK)
		if n := sure(key.Count(more)); n > sure(key.Count(r)) || n != few {
			t.Fatal("Count", r, x, n)
		}
		if many == 0 {
			return
		}
		added++
		for k := range r.Keys {
			for lock := range r.Locks {
				if v := sure(key.Opens(r, k, lock)); v != api.Perhaps && v != sure(key.Opens(more, k, lock)) {
					t.Fatal("was sure", r, x, k, lock)
				}
			}
		}
	})
	enough(t, added, 500)
	enough(t, contrary, 200)
}

// P8.22: turned.
func TestTurned(t *testing.T) {
	draws(3000, func(rng *rand.Rand, r api.Ring) {
		a := args{r: r, key: rng.IntN(4), lock: rng.IntN(4)}
		for range rng.IntN(3) {
			a.turns = append(a.turns, turned(rng.IntN(4), rng.IntN(2) == 0))
		}
		b := a
		b.r = with(r, func(r *api.Ring) {
			for _, k := range r.Keys {
				slices.Reverse(k.Cuts)
			}
			for _, l := range r.Locks {
				slices.Reverse(l)
			}
		})
		before, after := a.results(), b.results()
		for _, name := range []string{"Check", "Opens", "Count", "Wears", "Wrong", "Ask", "Cover", "Alike", "Tell", "Which"} {
			if after[name] != before[name] {
				t.Fatal(name, a, before[name], after[name])
			}
		}
		_, wear, _ := key.Master(r)
		if _, other, _ := key.Master(b.r); other != wear {
			t.Fatal("Master", a, wear, other)
		}
	})
}

// P8.23: numbered.
func TestNumbered(t *testing.T) {
	draws(3000, func(rng *rand.Rand, r api.Ring) {
		keys, locks := rng.Perm(len(r.Keys)), rng.Perm(len(r.Locks))
		other := with(r, func(x *api.Ring) {
			for k, n := range keys {
				x.Keys[n] = r.Keys[k]
			}
			for lock, n := range locks {
				x.Locks[n] = r.Locks[lock]
			}
			for i, y := range r.Tries {
				x.Tries[i] = tried(keys[y.Key], locks[y.Lock], y.Opens)
			}
		})
		if a, b := sure(key.Count(r)), sure(key.Count(other)); a != b {
			t.Fatal("Count", r, other, a, b)
		}
		for k, n := range keys {
			for lock, m := range locks {
				a, e := key.Opens(r, k, lock)
				if b, f := key.Opens(other, n, m); a != b || e != f {
					t.Fatal("Opens", r, other, k, lock, a, b, e, f)
				}
			}
		}
	})
}

package shelf_test

import (
	"fmt"
	"math/rand/v2"
	"slices"
	"testing"

	"gladstone/api"
	"gladstone/shelf"
)

// sure returns a result that comes without an error.
func sure[T any](x T, e api.Errno) T {
	if e != api.OK {
		panic(e)
	}
	return x
}

// best returns Best's worst, and whether there is a full plan.
func best(s api.Shelf) (worst int, is bool) {
	_, worst, e := shelf.Best(s)
	return worst, e == api.OK
}

// P3.1, P3.2: Room, Front and Must are what the chapter says of all truths.
func TestAllPairs(t *testing.T) {
	draws(1500, 5, 3, func(rng *rand.Rand, s api.Shelf) {
		var room ints
		for lane := range s.Lanes {
			room = append(room, leftOf(s, lane))
		}
		says(t, fmt.Sprint("Room ", s), fmt.Sprint(shelf.Room(s)), room, api.OK)
		truths := truthsOf(s)
		for i := range s.Plan {
			var front ints
			for k := range s.Plan {
				if k > i && s.Plan[k] == s.Plan[i] {
					front = append(front, k)
				}
				if k == i {
					continue
				}
				so := 0
				for _, hours := range truths {
					if isMoved(s.Plan, hours, i, k) {
						so++
					}
				}
				v := api.Perhaps
				switch so {
				case 0:
					v = api.NoWay
				case len(truths):
					v = api.Always
				}
				says(t, fmt.Sprint("Must ", s, i, k), fmt.Sprint(shelf.Must(s, i, k)), v, api.OK)
			}
			says(t, fmt.Sprint("Front ", s, i), fmt.Sprint(shelf.Front(s, i)), front, api.OK)
		}
	})
}

// P3.2, P3.3, P3.9, P3.10: each truth, pairs.
func TestEachTruth(t *testing.T) {
	draws(1000, 5, 4, func(rng *rand.Rand, s api.Shelf) {
		m := sure(shelf.Moves(s))
		var all ints
		for _, hours := range truthsOf(s) {
			n := sure(shelf.Moved(s, hours))
			if n != movesIn(s.Plan, hours) {
				t.Fatal("Moved", s, hours, n)
			}
			all = append(all, n)
		}
		if m != band(slices.Min(all), slices.Max(all)) {
			t.Fatal("Moves", s, m)
		}
		always, notNever := 0, 0
		for i := range s.Plan {
			for k := range s.Plan {
				if i == k {
					continue
				}
				switch sure(shelf.Must(s, i, k)) {
				case api.Always:
					always++
					notNever++
				case api.Perhaps:
					notNever++
				}
			}
		}
		if m.Min < always || m.Max > notNever {
			t.Fatal("pairs", s, m, always, notNever)
		}
	})
}

// P3.5, P3.6, P3.11: what all full plans say.
func TestAllPlans(t *testing.T) {
	draws(1500, 5, 2, func(rng *rand.Rand, s api.Shelf) {
		x, is := tellOf(s)
		e, f := api.OK, api.OK
		if !is {
			e = api.ErrEmpty
		}
		if x.fewest < 0 {
			x.fewest, f = 0, api.ErrEmpty
		}
		what := fmt.Sprint(s)
		says(t, "Best "+what, fmt.Sprint(shelf.Best(s)), x.plan, x.worst, e)
		says(t, "Lucky "+what, fmt.Sprint(shelf.Lucky(s)), x.lucky, x.luck, e)
		says(t, "Count "+what, fmt.Sprint(shelf.Count(s)), x.count, e)
		says(t, "Fewest "+what, fmt.Sprint(shelf.Fewest(s)), x.fewest, f)
		if t.Failed() {
			t.FailNow()
		}
	})
}

// P3.4, P3.8, P3.12: next. Put of each lane is the shelf with this lane, or says why not.
func TestNextLane(t *testing.T) {
	draws(2000, 5, 3, func(rng *rand.Rand, s api.Shelf) {
		if len(s.Plan) == len(s.Bags) {
			return
		}
		lane, worst, e := 0, 0, api.ErrEmpty
		for other := range s.Lanes {
			x := planned(s, append(slices.Clone(s.Plan), other))
			if !fits(x) {
				says(t, fmt.Sprint("Put ", s, other), fmt.Sprint(shelf.Put(s, other)), api.Shelf{}, api.ErrSize)
				continue
			}
			says(t, fmt.Sprint("Put ", s, other), fmt.Sprint(shelf.Put(s, other)), x, api.OK)
			if m := movesOf(x); e != api.OK || m.Max < worst {
				lane, worst, e = other, m.Max, api.OK
			}
		}
		says(t, fmt.Sprint("Next ", s), fmt.Sprint(shelf.Next(s)), lane, worst, e)
		if all, is := best(s); is && (e != api.OK || all < worst || all < sure(shelf.Moves(s)).Max) {
			t.Error("Best is better", s, all, worst)
		}
		if t.Failed() {
			t.FailNow()
		}
	})
}

// P3.13: put.
func TestPutBest(t *testing.T) {
	draws(2000, 5, 3, func(rng *rand.Rand, s api.Shelf) {
		plan, worst, e := shelf.Best(s)
		if e != api.OK {
			return
		}
		for _, lane := range plan[len(s.Plan):] {
			s = sure(shelf.Put(s, lane))
			says(t, fmt.Sprint("Best ", s), fmt.Sprint(shelf.Best(s)), plan, worst, api.OK)
		}
		if m := sure(shelf.Moves(s)); !slices.Equal(s.Plan, plan) || m.Max != worst {
			t.Fatal(s, plan, worst, m)
		}
	})
}

// P3.14: surer.
func TestSurer(t *testing.T) {
	draws(2000, 5, 6, func(rng *rand.Rand, s api.Shelf) {
		surer := with(s, func(s *api.Shelf) {
			for i := range s.Bags {
				out := &s.Bags[i].Out
				out.Min += rng.IntN(out.Max - out.Min + 1)
				out.Max -= rng.IntN(out.Max - out.Min + 1)
			}
		})
		a, b := sure(shelf.Moves(s)), sure(shelf.Moves(surer))
		if b.Min < a.Min || b.Max > a.Max {
			t.Fatal(s, surer, a, b)
		}
	})
}

// P3.15: more room.
func TestMoreRoom(t *testing.T) {
	draws(1500, 5, 3, func(rng *rand.Rand, s api.Shelf) {
		worst, is := best(s)
		if !is {
			return
		}
		more := with(s, func(s *api.Shelf) {
			if lane := rng.IntN(len(s.Lanes)); s.Lanes[lane] < api.ShelfLength {
				s.Lanes[lane]++
			} else if len(s.Lanes) < api.ShelfLanes {
				s.Lanes = append(s.Lanes, 1+rng.IntN(api.ShelfLength))
			}
		})
		if n, is := best(more); !is || n > worst {
			t.Fatal(s, more, worst, n)
		}
	})
}

// P3.16, P3.17: chain, known.
func TestKnown(t *testing.T) {
	draws(2000, 5, 0, func(rng *rand.Rand, s api.Shelf) {
		if m := sure(shelf.Moves(s)); m.Min != m.Max {
			t.Fatal("known", s, m)
		}
		free := with(s, func(s *api.Shelf) {
			s.Lanes, s.Plan = ints{9, 9, 9}, nil
			for i := range s.Bags {
				s.Bags[i].Long = 1
			}
		})
		chains, longest := make(ints, len(s.Bags)), 0 // the longest chain up to each piece
		for k, b := range free.Bags {
			for i := range k {
				if free.Bags[i].Out.Min < b.Out.Min {
					chains[k] = max(chains[k], chains[i])
				}
			}
			chains[k]++
			longest = max(longest, chains[k])
		}
		e := api.OK
		if longest > api.ShelfLanes {
			longest, e = 0, api.ErrEmpty
		}
		says(t, fmt.Sprint("Fewest ", free), fmt.Sprint(shelf.Fewest(free)), longest, e)
	})
}

// P3.3, P3.18: quiet.
func TestQuiet(t *testing.T) {
	draws(2000, 5, 3, func(rng *rand.Rand, s api.Shelf) {
		loud := make([]bool, len(s.Lanes))
		for i := range s.Plan {
			for _, k := range sure(shelf.Front(s, i)) {
				if sure(shelf.Must(s, i, k)) != api.NoWay {
					loud[s.Plan[i]] = true
				}
			}
		}
		var quiet ints
		for lane, is := range loud {
			if !is {
				quiet = append(quiet, lane)
			}
		}
		says(t, fmt.Sprint("Quiet ", s), fmt.Sprint(shelf.Quiet(s)), quiet, api.OK)
		if none := sure(shelf.Moves(s)).Max == 0; none != (len(quiet) == len(s.Lanes)) {
			t.Fatal(s, quiet, none)
		}
	})
}

// P3.7: of all pieces Ask returns the one that it has to.
func TestAsked(t *testing.T) {
	draws(1500, 5, 4, func(rng *rand.Rand, s api.Shelf) {
		s.Plan = s.Plan[:min(len(s.Plan), rng.IntN(3))] // only where pieces are put can an answer help
		asks(t, s)
	})
	for _, x := range asked() {
		asks(t, x.s)
	}
}

// asks reports what Ask should not say of the shelf.
func asks(t *testing.T, s api.Shelf) {
	t.Helper()
	piece, worst := askOf(s)
	if piece < 0 {
		refused(t, fmt.Sprint(s), args{s: s}, api.ErrEmpty, "Ask")
		return
	}
	says(t, fmt.Sprint("Ask ", s), fmt.Sprint(shelf.Ask(s)), piece, worst, api.OK)
}

// P3.19: ask.
func TestAnswers(t *testing.T) {
	draws(400, 5, 4, func(rng *rand.Rand, s api.Shelf) {
		now, is := best(s)
		piece, worst, e := shelf.Ask(s)
		if !is && e != api.ErrEmpty || e == api.OK && worst >= now {
			t.Fatal(s, now, piece, worst, e)
		}
		if e != api.OK {
			worst = now
		}
		for p, b := range s.Bags {
			most := 0
			for _, hour := range hoursOf(b) {
				n, _ := best(known(s, p, hour))
				most = max(most, n)
			}
			if is && most < worst || e == api.OK && p == piece && most != worst {
				t.Fatal(s, piece, worst, e, p, most)
			}
		}
	})
}

// P3.20: later.
func TestLater(t *testing.T) {
	draws(1000, 5, 3, func(rng *rand.Rand, s api.Shelf) {
		for _, b := range s.Bags {
			if b.Out.Max == api.ShelfHour {
				return
			}
		}
		a := args{s: s, hours: truthsOf(s)[0]}
		if len(s.Plan) > 1 {
			a.k = 1
		}
		later := a
		later.s = with(s, func(s *api.Shelf) {
			for i, b := range s.Bags {
				s.Bags[i].Out = band(b.Out.Min+1, b.Out.Max+1)
			}
		})
		later.hours = nil
		for _, hour := range a.hours {
			later.hours = append(later.hours, hour+1)
		}
		got, wanted := later.results(), a.results()
		for _, name := range names() {
			if name != "Put" && got[name] != wanted[name] { // whose result has the hours
				t.Fatal(name, s, got[name], wanted[name])
			}
		}
	})
}

// P3.21: lanes.
func TestLanes(t *testing.T) {
	draws(1000, 5, 3, func(rng *rand.Rand, s api.Shelf) {
		number := rng.Perm(len(s.Lanes))
		other := with(s, func(x *api.Shelf) {
			for lane, long := range s.Lanes {
				x.Lanes[number[lane]] = long
			}
			for piece, lane := range s.Plan {
				x.Plan[piece] = number[lane]
			}
		})
		_, a, e := shelf.Best(s)
		_, b, f := shelf.Best(other)
		if a != b || e != f {
			t.Fatal("Best", s, other, a, b, e, f)
		}
		says(t, fmt.Sprint("Count ", other), fmt.Sprint(shelf.Count(other)), fmt.Sprint(shelf.Count(s)))
		says(t, fmt.Sprint("Moves ", other), fmt.Sprint(shelf.Moves(other)), fmt.Sprint(shelf.Moves(s)))
	})
}

package smell_test

import (
	"fmt"
	"math/rand/v2"
	"slices"
	"testing"

	"gladstone/api"
	"gladstone/smell"
)

// sure returns a result that comes without an error.
func sure[T any](x T, e api.Errno) T {
	if e != api.OK {
		panic(e)
	}
	return x
}

// enough reports a test that had too few cases.
func enough(t *testing.T, cases, least int) {
	t.Helper()
	if cases < least {
		t.Error("too few cases:", cases)
	}
}

// P9.1 to P9.7, P9.8: what all truths say.
func TestAll(t *testing.T) {
	some, none, two, sniffed, nowhere := 0, 0, 0, 0, 0
	draws(1000, func(rng *rand.Rand, s api.Smell) {
		x := saidOf(s)
		tellsAll(t, fmt.Sprint(" ", s), s, x)
		if t.Failed() {
			t.FailNow()
		}
		is := func(so bool, n *int) {
			if so {
				*n++
			}
		}
		is(x.count > 0 && len(s.Noses) > 0, &some)
		is(x.count == 0, &none)
		is(len(x.suspects.numbers) > 1 && len(s.Noses) > 1, &two)
		is(slices.ContainsFunc(x.sniff, func(l list) bool { return l.e == api.OK }), &sniffed)
		is(x.count > 0 && slices.ContainsFunc(x.comes, func(l list) bool { return l.e != api.OK }), &nowhere)
	})
	enough(t, some, 400)
	enough(t, none, 60)
	enough(t, two, 60)
	enough(t, sniffed, 400)
	enough(t, nowhere, 60)
}

// The largest smells.
func TestLargest(t *testing.T) {
	s := largest().s
	s.Hampers = s.Hampers[:2]
	x := saidOf(s)
	if x.count < 2 || x.suspects.e != api.OK {
		t.Error("few suspicions:", x.count)
	}
	tellsAll(t, " of a large smell", s, x)
	three := largest().s
	truths := truthsOf(three)
	found := suspicionsOf(fitting(truths, three.Noses))
	says(t, "Count", fmt.Sprint(smell.Count(three)), len(found), api.OK)
	three.Noses = noses{nose(0, 3, true), nose(0, 3, false), nose(3, 9, true), nose(3, 9, false)}
	says(t, "Count", fmt.Sprint(smell.Count(three)), 0, api.OK)
	says(t, "Wrong", fmt.Sprint(smell.Wrong(three)), ints{0, 2}, api.OK)
	three.Noses = nil
	says(t, "Count", fmt.Sprint(smell.Count(three)), 39, api.OK)
}

// P9.9: reach.
func TestReaching(t *testing.T) {
	cases := 0
	draws(2000, func(rng *rand.Rand, s api.Smell) {
		for from := range s.Places {
			for to := range s.Places {
				there, e := smell.Reach(s, from, to)
				if back, f := smell.Reach(s, to, from); back != there || e != f {
					t.Fatal("back", s, from, to, there, back)
				}
				for over := range s.Places {
					a, f := smell.Reach(s, from, over)
					b, g := smell.Reach(s, over, to)
					if f != api.OK || g != api.OK {
						continue
					}
					cases++
					if e != api.OK || there.Min > a.Min+b.Min || there.Max > a.Max+b.Max {
						t.Fatal("longer than over", s, from, over, to)
					}
				}
			}
		}
	})
	enough(t, cases, 10000)
}

// P9.10: true.
func TestTrue(t *testing.T) {
	draws(600, func(rng *rand.Rand, s api.Smell) {
		truth := drawnTruth(rng, s)
		for i, n := range s.Noses {
			s.Noses[i].Smelled = truth.smells(n.Place, n.Hour)
		}
		says(t, fmt.Sprint("Wrong ", s), fmt.Sprint(smell.Wrong(s)), ints{}, api.OK)
		if !slices.Contains(sure(smell.Suspects(s)), truth.hamper) {
			t.Fatal("Suspects", s, truth)
		}
		if b := sure(smell.Since(s, truth.hamper)); truth.hour < b.Min || truth.hour > b.Max {
			t.Fatal("Since", s, truth, b)
		}
		for place, hour := range truth.comes {
			safe := sure(smell.Safe(s, place))
			if hour >= 0 && safe >= hour {
				t.Fatal("Safe", s, truth, place, safe)
			}
			if b, e := smell.Comes(s, place); hour >= 0 && (e != api.OK || hour < b.Min || hour > b.Max) {
				t.Fatal("Comes", s, truth, place, b, e)
			}
			for hour := range api.SmellHour + 1 {
				v := sure(smell.Verdict(s, place, hour))
				if is := truth.smells(place, hour); is && v == api.NoWay || !is && v == api.Always {
					t.Fatal("Verdict", s, truth, place, hour, v)
				}
			}
		}
	})
}

// P9.11: longer.
func TestLonger(t *testing.T) {
	cases := 0
	draws(2000, func(rng *rand.Rand, s api.Smell) {
		var before ints
		for hour := range api.SmellHour + 1 {
			surely, e := smell.Surely(s, hour)
			if e != api.OK {
				return
			}
			if !all(before, func(place int) bool { return slices.Contains(surely, place) }) {
				t.Fatal("not any more", s, hour, before, surely)
			}
			cases += len(before)
			before = surely
		}
	})
	enough(t, cases, 5000)
}

// P9.7, P9.12: one nose more.
func TestOneMore(t *testing.T) {
	added, contrary := 0, 0
	draws(1000, func(rng *rand.Rand, s api.Smell) {
		if len(s.Noses) == api.SmellNoses {
			return
		}
		n := nose(rng.IntN(s.Places), rng.IntN(api.SmellHour+1), rng.IntN(2) == 0)
		truths := truthsOf(s)
		many, few := suspicionsOf(fitting(truths, s.Noses)), suspicionsOf(fitting(truths, longer(s.Noses, n)))
		more, e := smell.Add(s, n)
		if len(many) > 0 && len(few) == 0 {
			contrary++
			says(t, fmt.Sprint("Add ", s, n), fmt.Sprint(more, e), api.Smell{}, api.ErrContrary)
			return
		}
		says(t, fmt.Sprint("Add ", s, n), fmt.Sprint(more, e), also(s, n), api.OK)
		if count := sure(smell.Count(more)); count > sure(smell.Count(s)) || count != len(few) {
			t.Fatal("Count", s, n, count)
		}
		if len(many) == 0 {
			return
		}
		added++
		for place := range s.Places {
			for hour := range api.SmellHour + 1 {
				v := sure(smell.Verdict(s, place, hour))
				if v != api.Perhaps && v != sure(smell.Verdict(more, place, hour)) {
					t.Fatal("was sure", s, n, place, hour)
				}
			}
		}
	})
	enough(t, added, 300)
	enough(t, contrary, 100)
}

// P9.13: safe.
func TestSafe(t *testing.T) {
	ever, always := 0, 0
	draws(600, func(rng *rand.Rand, s api.Smell) {
		suspects, e := smell.Suspects(s)
		if e != api.OK {
			return
		}
		for place := range s.Places {
			comes, e := smell.Comes(s, place)
			want := api.SmellHour
			if e == api.OK {
				want = min(want, comes.Min-1)
				ever++
			}
			says(t, fmt.Sprint("Safe ", s, place), fmt.Sprint(smell.Safe(s, place)), want, api.OK)
			reached := all(suspects, func(hamper int) bool {
				_, e := smell.Reach(s, s.Hampers[hamper], place)
				return e == api.OK
			})
			for hour := range api.SmellHour + 1 {
				is := sure(smell.Verdict(s, place, hour)) == api.Always
				if want := reached && hour >= comes.Max; is != want {
					t.Fatal("from the greatest on", s, place, hour, comes, is)
				}
				if is {
					always++
				}
			}
		}
	})
	enough(t, ever, 1000)
	enough(t, always, 1000)
}

// P9.5, P9.14: wrong.
func TestWithout(t *testing.T) {
	wrong := 0
	draws(2000, func(rng *rand.Rand, s api.Smell) {
		without := func(l ints) api.Smell {
			return with(s, func(x *api.Smell) { x.Noses = skipping(s.Noses, l) })
		}
		l := sure(smell.Wrong(s))
		if sure(smell.Count(without(l))) == 0 {
			t.Fatal("no truth without", s, l)
		}
		if len(l) > 0 {
			wrong++
		}
		for _, other := range groups(len(s.Noses)) {
			if before(other, l) < 0 && sure(smell.Count(without(other))) > 0 {
				t.Fatal("comes before", s, l, other)
			}
		}
	})
	enough(t, wrong, 200)
}

// after returns the greatest number of suspicions that are left if it is sniffed at a place.
func after(t *testing.T, s api.Smell, place, hour int) int {
	most := 0
	for _, smelled := range []bool{false, true} {
		added, e := smell.Add(s, nose(place, hour, smelled))
		switch e {
		case api.OK:
			most = max(most, sure(smell.Count(added)))
		case api.ErrContrary:
		default:
			t.Fatal("Add", s, place, hour, smelled, e)
		}
	}
	return most
}

// P9.6, P9.15: sniff.
func TestSniffed(t *testing.T) {
	asked, useless := 0, 0
	draws(2000, func(rng *rand.Rand, s api.Smell) {
		count := sure(smell.Count(s))
		if count == 0 || len(s.Noses) == api.SmellNoses {
			return
		}
		hour := rng.IntN(api.SmellHour + 1)
		place, left, e := smell.Sniff(s, hour)
		if e != api.OK {
			left = count
			useless++
		} else if asked++; after(t, s, place, hour) != left || left >= count {
			t.Fatal("Sniff", s, place, hour, left)
		}
		for other := range s.Places {
			n := after(t, s, other, hour)
			if n < left || e == api.OK && n == left && other < place {
				t.Fatal("better, or before", s, place, hour, left, other, n)
			}
		}
	})
	enough(t, asked, 500)
	enough(t, useless, 100)
}

// P9.16: surer.
func TestSurer(t *testing.T) {
	cases := 0
	draws(2000, func(rng *rand.Rand, s api.Smell) {
		if len(s.Doors) == 0 {
			return
		}
		i := rng.IntN(len(s.Doors))
		takes := s.Doors[i].Takes
		least := takes.Min + rng.IntN(takes.Max-takes.Min+1)
		narrow := api.Band{Min: least, Max: least + rng.IntN(takes.Max-least+1)}
		if narrow != takes {
			cases++
		}
		surer := with(s, func(s *api.Smell) { s.Doors[i].Takes = narrow })
		if a, b := sure(smell.Count(s)), sure(smell.Count(surer)); b > a {
			t.Fatal("Count", s, surer, a, b)
		}
		for from := range s.Places {
			for to := range s.Places {
				a, e := smell.Reach(s, from, to)
				if b, f := smell.Reach(surer, from, to); e != f || b.Min < a.Min || b.Max > a.Max {
					t.Fatal("Reach", s, surer, from, to, a, b)
				}
			}
		}
	})
	enough(t, cases, 500)
}

// P9.17: later.
func TestLater(t *testing.T) {
	cases, more := 0, 0
	draws(4000, func(rng *rand.Rand, s api.Smell) {
		last, smelled := 0, false
		for _, n := range s.Noses {
			last, smelled = max(last, n.Hour), smelled || n.Smelled
		}
		if !smelled || last == api.SmellHour {
			return
		}
		by := 1 + rng.IntN(api.SmellHour-last)
		later := with(s, func(s *api.Smell) {
			for i := range s.Noses {
				s.Noses[i].Hour += by
			}
		})
		a, b := sure(smell.Count(s)), sure(smell.Count(later))
		if b < a {
			t.Fatal("Count", s, later, a, b)
		}
		cases++
		if b > a {
			more++
		}
	})
	enough(t, cases, 1000)
	enough(t, more, 300)
}

// P9.18: own place.
func TestOwnPlace(t *testing.T) {
	cases := 0
	draws(3000, func(rng *rand.Rand, s api.Smell) {
		hamper := rng.IntN(len(s.Hampers))
		place := s.Hampers[hamper]
		if slices.ContainsFunc(s.Doors, func(d api.Door) bool { return d.A == place || d.B == place }) {
			return
		}
		if len(s.Noses) < api.SmellNoses {
			s = also(s, nose(place, rng.IntN(api.SmellHour+1), true))
		}
		smelled := slices.ContainsFunc(s.Noses, func(n api.Nose) bool { return n.Place == place && n.Smelled })
		suspects, e := smell.Suspects(s)
		if !smelled || e != api.OK {
			return
		}
		cases++
		if !slices.Equal(suspects, ints{hamper}) {
			t.Fatal("Suspects", s, hamper, suspects)
		}
	})
	enough(t, cases, 300)
}

// P9.19: a door more.
func TestDoorMore(t *testing.T) {
	cases := 0
	draws(2000, func(rng *rand.Rand, s api.Smell) {
		if len(s.Doors) == api.SmellDoors || s.Places == 1 {
			return
		}
		pair, least := rng.Perm(s.Places), 1+rng.IntN(api.SmellTakes)
		d := door(pair[0], pair[1], least, min(api.SmellTakes, least+rng.IntN(2)))
		more := with(s, func(s *api.Smell) { s.Doors = append(s.Doors, d) })
		for from := range s.Places {
			for to := range s.Places {
				a, e := smell.Reach(s, from, to)
				b, f := smell.Reach(more, from, to)
				if e == api.OK && (f != api.OK || b.Min > a.Min || b.Max > a.Max) {
					t.Fatal("Reach", s, more, from, to, a, b)
				}
				if a != b {
					cases++
				}
			}
		}
	})
	enough(t, cases, 1000)
}

// P9.20: renumbered.
func TestRenumbered(t *testing.T) {
	draws(600, func(rng *rand.Rand, s api.Smell) {
		numbers := rng.Perm(s.Places)
		other := with(s, func(s *api.Smell) {
			for i, d := range s.Doors {
				s.Doors[i].A, s.Doors[i].B = numbers[d.A], numbers[d.B]
				if rng.IntN(2) == 0 {
					s.Doors[i].A, s.Doors[i].B = s.Doors[i].B, s.Doors[i].A
				}
			}
			for i, place := range s.Hampers {
				s.Hampers[i] = numbers[place]
			}
			for i, n := range s.Noses {
				s.Noses[i].Place = numbers[n.Place]
			}
		})
		for place, number := range numbers {
			a, b := args{s: s, place: place, hour: place}, args{s: other, place: number, hour: place}
			before, now := a.results(), b.results()
			for _, name := range []string{"Count", "Suspects", "Since", "Verdict", "Comes", "Safe", "Wrong", "First"} {
				if now[name] != before[name] {
					t.Fatal(name, a, b, before[name], now[name])
				}
			}
		}
	})
}

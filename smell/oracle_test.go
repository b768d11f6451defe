package smell_test

import (
	"math/rand/v2"
	"slices"

	"gladstone/api"
)

type (
	ints  = []int
	rows  = [][]int
	doors = []api.Door
	noses = []api.Nose
)

// door returns a door, nose a nose, hall a smell with the noses.
func door(a, b, least, most int) api.Door {
	return api.Door{A: a, B: b, Takes: api.Band{Min: least, Max: most}}
}

func nose(place, hour int, smelled bool) api.Nose {
	return api.Nose{Place: place, Hour: hour, Smelled: smelled}
}

func hall(places int, l doors, hampers ints, n ...api.Nose) api.Smell {
	return api.Smell{Places: places, Doors: l, Hampers: hampers, Noses: n}
}

// smellS and smellW are S and W of the chapter's examples; S with other noses is S without its own.
func smellS() api.Smell { return otherS(nose(1, 4, true), nose(3, 3, false)) }

func smellW() api.Smell { return otherS(nose(2, 0, true), nose(2, 1, false)) }

func otherS(l ...api.Nose) api.Smell {
	return hall(4, doors{door(0, 1, 2, 3), door(1, 2, 1, 1), door(0, 3, 1, 2)}, ints{0, 2}, l...)
}

// with returns a copy of a smell with a change.
func with(s api.Smell, change func(s *api.Smell)) api.Smell {
	s.Doors, s.Hampers, s.Noses = slices.Clone(s.Doors), slices.Clone(s.Hampers), slices.Clone(s.Noses)
	change(&s)
	return s
}

// also returns a smell with more noses, which may be more than there can be.
func also(s api.Smell, l ...api.Nose) api.Smell {
	return with(s, func(s *api.Smell) { s.Noses = append(s.Noses, l...) })
}

// longer returns a new list with one element more.
func longer[T any](l []T, x T) []T { return append(slices.Clone(l), x) }

// all returns whether it is so of all elements.
func all[T any](l []T, is func(T) bool) bool {
	return !slices.ContainsFunc(l, func(x T) bool { return !is(x) })
}

// late is an hour at which nothing comes any more that comes at all.
const late = api.SmellHour + api.SmellPlaces*api.SmellTakes

// truth is a truth, and the hour at which the smell comes to each place; -1 if it never does.
type truth struct {
	hamper, hour int
	takes, comes ints
}

func (x truth) smells(place, hour int) bool { return 0 <= x.comes[place] && x.comes[place] <= hour }

func (x truth) so(n api.Nose) bool { return x.smells(n.Place, n.Hour) == n.Smelled }

// comesOf returns the hours at which a smell comes to places, which goes on hour by hour.
func comesOf(s api.Smell, place, hour int, takes ints) ints {
	comes := slices.Repeat(ints{-1}, s.Places)
	comes[place] = hour
	for now := hour; now <= late; now++ {
		for i, d := range s.Doors {
			for _, way := range [][2]int{{d.A, d.B}, {d.B, d.A}} {
				if since := comes[way[0]]; since >= 0 && since+takes[i] == now && comes[way[1]] < 0 {
					comes[way[1]] = now
				}
			}
		}
	}
	return comes
}

// lists returns all lists of numbers within bands, in lexicographic order.
func lists(l doors) rows {
	all := rows{nil}
	for _, d := range l {
		var more rows
		for _, takes := range all {
			for n := d.Takes.Min; n <= d.Takes.Max; n++ {
				more = append(more, longer(takes, n))
			}
		}
		all = more
	}
	return all
}

// truthsOf returns all truths, in their order, whether they fit or not.
func truthsOf(s api.Smell) []truth {
	var all []truth
	for hamper, place := range s.Hampers {
		for hour := range api.SmellHour + 1 {
			for _, takes := range lists(s.Doors) {
				all = append(all, truth{hamper, hour, takes, comesOf(s, place, hour, takes)})
			}
		}
	}
	return all
}

// fitting returns the truths that fit all of the noses.
func fitting(truths []truth, l noses) []truth {
	var fit []truth
	for _, x := range truths {
		if all(l, x.so) {
			fit = append(fit, x)
		}
	}
	return fit
}

// suspicionsOf returns the hampers and the hours of truths.
func suspicionsOf(truths []truth) [][2]int {
	var l [][2]int
	for _, x := range truths {
		l = append(l, [2]int{x.hamper, x.hour})
	}
	slices.SortFunc(l, func(a, b [2]int) int { return slices.Compare(a[:], b[:]) })
	return slices.Compact(l)
}

// groups returns all lists of some of so many numbers, those of fewer before
// others, and otherwise in lexicographic order.
func groups(length int) rows {
	all := rows{nil}
	for n := range length {
		for _, l := range all {
			all = append(all, longer(l, n))
		}
	}
	slices.SortFunc(all, before)
	return all
}

// before compares lists of fewest.
func before(a, b ints) int {
	if len(a) != len(b) {
		return len(a) - len(b)
	}
	return slices.Compare(a, b)
}

// skipping returns the noses without some.
func skipping(l noses, wrong ints) noses {
	var rest noses
	for i, n := range l {
		if !slices.Contains(wrong, i) {
			rest = append(rest, n)
		}
	}
	return rest
}

// list is a list that may not be there.
type list struct {
	numbers ints
	e       api.Errno
}

func some(l ...int) list { return list{l, api.OK} }

func nothing() list { return list{e: api.ErrEmpty} }

// spanOf returns the least and the greatest number, if there are any.
func spanOf(l ints) list {
	if len(l) == 0 {
		return nothing()
	}
	return some(slices.Min(l), slices.Max(l))
}

// said is what all truths of a smell say.
type said struct {
	count    int
	suspects list
	since    []list // for each hamper
	verdicts rows   // for each place and hour
	comes    []list // for each place
	safe     ints   // for each place
	wrong    ints
	sniff    []list // for each hour: a place, and how many suspicions are left
	first    list   // a hamper, an hour, and what the doors take
	reach    [][]list
}

// saidOf returns what all truths of the smell say.
func saidOf(s api.Smell) said {
	truths := truthsOf(s)
	fit := fitting(truths, s.Noses)
	found := suspicionsOf(fit)
	x := said{count: len(found), suspects: nothing(), first: nothing()}
	x.reach = reachOf(s)
	for _, l := range groups(len(s.Noses)) {
		if len(fitting(truths, skipping(s.Noses, l))) > 0 {
			x.wrong = l
			break
		}
	}
	hours := make(rows, len(s.Hampers))
	for _, y := range found {
		hours[y[0]] = append(hours[y[0]], y[1])
	}
	for hamper, l := range hours {
		x.since = append(x.since, spanOf(l))
		if len(l) > 0 {
			x.suspects = some(append(x.suspects.numbers, hamper)...)
		}
	}
	for place := range s.Places {
		var comes ints
		for _, y := range fit {
			if y.comes[place] >= 0 {
				comes = append(comes, y.comes[place])
			}
		}
		x.comes = append(x.comes, spanOf(comes))
	}
	for hour := range api.SmellHour + 1 {
		x.sniff = append(x.sniff, sniffOf(s, fit, hour))
	}
	if len(fit) > 0 {
		x.first = some(append(ints{fit[0].hamper, fit[0].hour}, fit[0].takes...)...)
		for place := range s.Places {
			verdicts, safe := verdictsOf(fit, place)
			x.verdicts, x.safe = append(x.verdicts, verdicts), append(x.safe, safe)
		}
	}
	return x
}

// verdictsOf returns the verdict of a place at each hour, and the last hour before it can smell there.
func verdictsOf(fit []truth, place int) (verdicts ints, safe int) {
	safe = -1
	for hour := range api.SmellHour + 1 {
		yes := 0
		for _, x := range fit {
			if x.smells(place, hour) {
				yes++
			}
		}
		switch yes {
		case len(fit):
			verdicts = append(verdicts, api.Always)
		case 0:
			verdicts, safe = append(verdicts, api.NoWay), hour
		default:
			verdicts = append(verdicts, api.Perhaps)
		}
	}
	return verdicts, safe
}

// sniffOf returns where it should be sniffed at an hour.
func sniffOf(s api.Smell, fit []truth, hour int) list {
	best, left := nothing(), len(suspicionsOf(fit))
	for place := range s.Places {
		most := 0
		for _, smelled := range []bool{false, true} {
			most = max(most, len(suspicionsOf(fitting(fit, noses{nose(place, hour, smelled)}))))
		}
		if most < left {
			best, left = some(place, most), most
		}
	}
	return best
}

// reachOf returns how many hours the smell takes between any two places.
func reachOf(s api.Smell) [][]list {
	between := make([][]ints, s.Places)
	for from := range between {
		between[from] = make([]ints, s.Places)
		for _, takes := range lists(s.Doors) {
			for to, hour := range comesOf(s, from, 0, takes) {
				if hour >= 0 {
					between[from][to] = append(between[from][to], hour)
				}
			}
		}
	}
	reach := make([][]list, s.Places)
	for from, l := range between {
		for _, hours := range l {
			reach[from] = append(reach[from], spanOf(hours))
		}
	}
	return reach
}

// drawn returns a valid smell. Most noses are told as they were in one truth.
func drawn(rng *rand.Rand) api.Smell {
	s := api.Smell{Places: 1 + rng.IntN(api.SmellPlaces)}
	ways := 1 // how many lists of the doors' numbers there are
	for range min(api.SmellDoors, rng.IntN(api.SmellDoors+3)) {
		if s.Places == 1 {
			break
		}
		pair, least := rng.Perm(s.Places), 1+rng.IntN(api.SmellTakes)
		most := min(api.SmellTakes, least+rng.IntN(3))
		if ways *= most - least + 1; ways > 12 {
			most, ways = least, ways/(most-least+1)
		}
		s.Doors = append(s.Doors, door(pair[0], pair[1], least, most))
	}
	s.Hampers = rng.Perm(s.Places)[:min(s.Places, 1+rng.IntN(api.SmellHampers))]
	truth := drawnTruth(rng, s)
	lies := 2 + rng.IntN(12)
	for range rng.IntN(api.SmellNoses + 1) {
		n := nose(rng.IntN(s.Places), rng.IntN(api.SmellHour+1), true)
		n.Smelled = truth.smells(n.Place, n.Hour) != (rng.IntN(lies) == 0)
		s.Noses = append(s.Noses, n)
	}
	return s
}

// drawnTruth returns one of the truths, which may not fit.
func drawnTruth(rng *rand.Rand, s api.Smell) truth {
	hamper, hour, takes := rng.IntN(len(s.Hampers)), min(rng.IntN(api.SmellHour+1), rng.IntN(api.SmellHour+1)), ints(nil)
	for _, d := range s.Doors {
		takes = append(takes, d.Takes.Min+rng.IntN(d.Takes.Max-d.Takes.Min+1))
	}
	return truth{hamper, hour, takes, comesOf(s, s.Hampers[hamper], hour, takes)}
}

// draws calls try with many valid smells, always the same ones.
func draws(count int, try func(rng *rand.Rand, s api.Smell)) {
	rng := rand.New(rand.NewPCG(9, uint64(count)))
	for range count {
		try(rng, drawn(rng))
	}
}

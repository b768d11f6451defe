package shelf_test

import (
	"math/rand/v2"
	"slices"

	"gladstone/api"
)

type ints = []int

func band(a, b int) api.Band { return api.Band{Min: a, Max: b} }

func bag(long, from, to int) api.Bag { return api.Bag{Long: long, Out: band(from, to)} }

func shelfOf(lanes, plan ints, bags ...api.Bag) api.Shelf {
	return api.Shelf{Lanes: lanes, Bags: bags, Plan: plan}
}

// shelfS, shelfT, shelfU and shelfW are S, T, U and W of the chapter's examples.
func shelfS() api.Shelf {
	return shelfOf(ints{5, 4}, ints{0, 0}, bag(2, 3, 4), bag(2, 1, 2), bag(3, 2, 5), bag(1, 0, 1))
}

func shelfT() api.Shelf { return with(shelfS(), func(s *api.Shelf) { s.Plan = nil }) }

func shelfU() api.Shelf {
	return with(shelfS(), func(s *api.Shelf) { s.Lanes, s.Plan = ints{9}, ints{0, 0, 0, 0} })
}

func shelfW() api.Shelf { return shelfOf(ints{2, 1}, nil, bag(1, 2, 2), bag(1, 1, 3), bag(1, 1, 3)) }

// with returns a copy of a shelf with a change.
func with(s api.Shelf, change func(s *api.Shelf)) api.Shelf {
	s.Lanes, s.Bags, s.Plan = slices.Clone(s.Lanes), slices.Clone(s.Bags), slices.Clone(s.Plan)
	change(&s)
	return s
}

// planned returns the shelf with another plan.
func planned(s api.Shelf, plan ints) api.Shelf {
	return with(s, func(s *api.Shelf) { s.Plan = slices.Clone(plan) })
}

// known returns the shelf if it is known when a piece is fetched.
func known(s api.Shelf, piece, hour int) api.Shelf {
	return with(s, func(s *api.Shelf) { s.Bags[piece].Out = band(hour, hour) })
}

// hoursOf returns all hours at which a piece can be fetched.
func hoursOf(b api.Bag) ints {
	var l ints
	for hour := range api.ShelfHour + 1 {
		if b.Out.Min <= hour && hour <= b.Out.Max {
			l = append(l, hour)
		}
	}
	return l
}

// allLists returns all lists of one element of each choice, in lexicographic order.
func allLists(choices []ints) []ints {
	all := []ints{{}}
	for _, some := range choices {
		var longer []ints
		for _, l := range all {
			for _, n := range some {
				longer = append(longer, append(slices.Clone(l), n))
			}
		}
		all = longer
	}
	return all
}

// truthsOf returns all truths of the pieces that came.
func truthsOf(s api.Shelf) []ints {
	var choices []ints
	for piece := range s.Plan {
		choices = append(choices, hoursOf(s.Bags[piece]))
	}
	return allLists(choices)
}

// isMoved returns whether k is moved for i in a truth, as the chapter says it.
func isMoved(plan, hours ints, i, k int) bool {
	return plan[i] == plan[k] && k > i && hours[i] < hours[k]
}

// movesIn returns the moves of a truth.
func movesIn(plan, hours ints) int {
	n := 0
	for i := range hours {
		for k := range hours {
			if isMoved(plan, hours, i, k) {
				n++
			}
		}
	}
	return n
}

// movesOf returns the luck and the worst of the plan.
func movesOf(s api.Shelf) api.Band {
	var all ints
	for _, hours := range truthsOf(s) {
		all = append(all, movesIn(s.Plan, hours))
	}
	return band(slices.Min(all), slices.Max(all))
}

// leftOf returns how much of the lane's length the pieces leave, less than 0 if there is no room for them.
func leftOf(s api.Shelf, lane int) int {
	left := s.Lanes[lane]
	for piece, its := range s.Plan {
		if its == lane {
			left -= s.Bags[piece].Long
		}
	}
	return left
}

// fits returns whether all pieces of the plan have room.
func fits(s api.Shelf) bool {
	for lane := range s.Lanes {
		if leftOf(s, lane) < 0 {
			return false
		}
	}
	return true
}

// fullOf returns the shelf with each full plan, in lexicographic order.
func fullOf(s api.Shelf) []api.Shelf {
	var choices []ints
	for piece := range s.Bags {
		if piece < len(s.Plan) {
			choices = append(choices, s.Plan[piece:piece+1])
			continue
		}
		var lanes ints
		for lane := range s.Lanes {
			lanes = append(lanes, lane)
		}
		choices = append(choices, lanes)
	}
	var full []api.Shelf
	for _, plan := range allLists(choices) {
		if x := planned(s, plan); fits(x) {
			full = append(full, x)
		}
	}
	return full
}

// told is what full plans say: the plans of the least worst and of the least
// luck, these, how many plans have that worst, and of how many of the first
// lanes one is that has the worst 0; -1 if there is none.
type told struct {
	plan   ints
	worst  int
	lucky  ints
	luck   int
	count  int
	fewest int
}

// tellOf returns what all full plans say, and whether there is one.
func tellOf(s api.Shelf) (x told, is bool) {
	x.fewest = -1
	for _, f := range fullOf(s) {
		m := movesOf(f)
		if !is || m.Max < x.worst {
			x.plan, x.worst, x.count = f.Plan, m.Max, 0
		}
		if m.Max == x.worst {
			x.count++
		}
		if !is || m.Min < x.luck {
			x.lucky, x.luck = f.Plan, m.Min
		}
		lanes := 0
		for _, lane := range f.Plan {
			lanes = max(lanes, lane+1)
		}
		if m.Max == 0 && (x.fewest < 0 || lanes < x.fewest) {
			x.fewest = lanes
		}
		is = true
	}
	return x, is
}

// askOf returns the piece of which it should be asked, and the worst that it leaves; -1 if there is none.
func askOf(s api.Shelf) (piece, worst int) {
	best, is := tellOf(s)
	if !is {
		return -1, 0
	}
	piece, worst = -1, best.worst
	for p, b := range s.Bags {
		most := 0
		for _, hour := range hoursOf(b) {
			x, _ := tellOf(known(s, p, hour))
			most = max(most, x.worst)
		}
		if most < worst {
			piece, worst = p, most
		}
	}
	return piece, worst
}

// drawn returns a valid shelf of at most so many pieces, whose hours are known
// but for so many more at most.
func drawn(rng *rand.Rand, pieces, more int) api.Shelf {
	var s api.Shelf
	for range 1 + rng.IntN(api.ShelfLanes) {
		s.Lanes = append(s.Lanes, 1+rng.IntN(api.ShelfLength))
	}
	longest := 1 + rng.IntN(4) // short pieces find room
	for range pieces - min(rng.IntN(pieces+1), rng.IntN(pieces+1)) {
		from := rng.IntN(api.ShelfHour + 1)
		s.Bags = append(s.Bags, bag(1+rng.IntN(longest), from, min(from+rng.IntN(more+1), api.ShelfHour)))
	}
	for range rng.IntN(len(s.Bags) + 1) {
		s.Plan = append(s.Plan, rng.IntN(len(s.Lanes)))
		if !fits(s) {
			s.Plan = s.Plan[:len(s.Plan)-1]
			break
		}
	}
	return s
}

// draws calls try with many valid shelves, always the same ones.
func draws(count, pieces, more int, try func(rng *rand.Rand, s api.Shelf)) {
	rng := rand.New(rand.NewPCG(3, uint64(count)))
	for range count {
		try(rng, drawn(rng, pieces, more))
	}
}

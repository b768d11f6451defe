package smell

import (
	"iter"

	"gladstone/api"
)

// never stands for the hour of what does not come; it is later than any that does.
const never = 1000

// takes is how many hours each door takes.
type takes [api.SmellDoors]int

// list returns the numbers of so many doors.
func (t takes) list(doors int) []int {
	list := make([]int, doors)
	copy(list, t[:])
	return list
}

// hours is when the smell comes to each place.
type hours [api.SmellPlaces]int

func (h hours) smells(s spot) bool { return h[s.place] <= s.hour }

// later returns the hours if the smell begins so much later.
func (h hours) later(by int) hours {
	for place := range h {
		h[place] += by
	}
	return h
}

// arrive shows the hour at which the smell comes to the place, if it ever does.
func (h hours) arrive(place int, show func(int)) {
	if h[place] < never {
		show(h[place])
	}
}

// truth is a hamper, the hour at which it begins to smell, and what the doors take.
type truth struct {
	hamper, hour int
	takes        takes
}

// spread returns when the smell comes if it begins at the place at the hour 0.
func (m smell) spread(from int, t takes) hours {
	h := hours{}.later(never)
	h[from] = 0
again:
	before := h
	for door, d := range m.Doors {
		h[d.A] = min(h[d.A], h[d.B]+t[door])
		h[d.B] = min(h[d.B], h[d.A]+t[door])
	}
	if h != before {
		goto again
	}
	return h
}

// guesses goes through all that the doors can take, in lexicographic order.
func (m smell) guesses() iter.Seq[takes] {
	return func(yield func(takes) bool) {
		var guess func(t takes, door int) bool
		guess = func(t takes, door int) bool {
			if door == len(m.Doors) {
				return yield(t)
			}
			band := m.Doors[door].Takes
			for t[door] = band.Min; t[door] <= band.Max; t[door]++ {
				if !guess(t, door+1) {
					return false
				}
			}
			return true
		}
		guess(takes{}, 0)
	}
}

// spreading is what the doors take, and when the smell comes if it begins at the hour 0.
type spreading struct {
	takes takes
	hours hours
}

// spreadings returns how the smell can spread from the place. Of those with the same
// hours it is the first one, as the others say nothing else.
func (m smell) spreadings(from int) []spreading {
	var all []spreading
	known := map[hours]bool{}
	for t := range m.guesses() {
		h := m.spread(from, t)
		if _, before := known[h]; before {
			continue
		}
		known[h] = true
		all = append(all, spreading{t, h})
	}
	return all
}

// truths goes through the truths of the hamper, in their order, whether they fit or
// not, and when the smell comes in them. Those that say nothing else than one before
// are left out.
func (m smell) truths(hamper int) iter.Seq2[truth, hours] {
	return func(yield func(truth, hours) bool) {
		all := m.spreadings(m.Hampers[hamper])
		for hour := range api.SmellHour + 1 {
			for _, s := range all {
				if !yield(truth{hamper, hour, s.takes}, s.hours.later(hour)) {
					return
				}
			}
		}
	}
}

// reach returns how many hours the smell takes from one place to the other one.
func (m smell) reach(from, to int) bounds[int] {
	var b bounds[int]
	for t := range m.guesses() {
		m.spread(from, t).arrive(to, b.show)
	}
	return b
}

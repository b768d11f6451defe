package smell

import "cmp"

// question is the hour at which it is to be sniffed, and what says how many
// suspicions are left after a nose.
type question struct {
	hour int
	left func(nose) int
}

// answer is a place, and how many suspicions are left at most if it is sniffed there.
type answer struct{ place, left int }

func (a answer) compare(other answer) int { return cmp.Compare(a.left, other.left) }

// best returns the first one of so many places for which the fewest of all
// suspicions are left at most.
func (q question) best(places, all int) answer {
	best := answer{left: all}
	for place := range places {
		s := spot{place, q.hour}
		most := max(q.left(whiff{s}), q.left(clean{s}))
		best = least(answer.compare, best, answer{place, most})
	}
	return best
}

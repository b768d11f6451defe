package barrow

import (
	"iter"
	"slices"
)

// plans goes through all plans, in lexicographic order.
func (h haul) plans() iter.Seq[[]int] {
	return func(yield func([]int) bool) {
		var plan []int
		var extend func(left int) bool
		add := func(load, left int) bool {
			plan = append(plan, load)
			defer func() { plan = plan[:len(plan)-1] }()
			return extend(left - load)
		}
		extend = func(left int) bool {
			if left == 0 {
				return yield(slices.Clone(plan))
			}
			for load := range numbers(1, min(h.Load, left)) {
				if !add(load, left) {
					return false
				}
			}
			return true
		}
		extend(len(h.jobs))
	}
}

// inTime goes through the plans that are in time, in lexicographic order.
func (h haul) inTime() iter.Seq[[]int] {
	return func(yield func([]int) bool) {
	plans:
		for plan := range h.plans() {
			for became := range h.trips(plan) {
				switch became.(type) {
				case late:
					continue plans
				}
			}
			if !yield(plan) {
				break plans
			}
		}
	}
}

// best returns the plan whose latest job is least late.
func (h haul) best() least[[]int] {
	best := least[[]int]{of: h.latest}
	each(best.show, h.plans())
	return best
}

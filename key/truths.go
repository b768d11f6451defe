package key

import (
	"iter"

	"gladstone/api"
)

// truth is by how much each key is worn.
type truth [api.KeyKeys]int

// with returns the truth in which the key is worn by this number instead.
func (t truth) with(key, wear int) truth {
	t[key] = wear
	return t
}

// truths is all truths.
type truths map[truth]bool

// times returns in how many truths it is so.
func (all truths) times(is func(truth) bool) int {
	n := 0
	for t := range all {
		if is(t) {
			n++
		}
	}
	return n
}

func (all truths) always(is func(truth) bool) bool { return all.times(is) == len(all) }

// wears returns the numbers by which the key is worn in some truth.
func (all truths) wears(key int) []int {
	var wears []int
	for wear := range api.KeyWear + 1 {
		if all.times(func(t truth) bool { return t == t.with(key, wear) }) > 0 {
			wears = append(wears, wear)
		}
	}
	return wears
}

// guesses goes through all that would be truths if nothing had been tried.
func (r ring) guesses() iter.Seq[truth] {
	return func(yield func(truth) bool) {
		var guess func(t truth, key int) bool
		guess = func(t truth, key int) bool {
			if key == len(r.Keys) {
				return yield(t)
			}
			wear := r.Keys[key].Wear
			for more := range wear.Max - wear.Min + 1 {
				if !guess(t.with(key, wear.Min+more), key+1) {
					return false
				}
			}
			return true
		}
		guess(truth{}, 0)
	}
}

// findTruths returns the guesses that are left after all that was tried.
func (r ring) findTruths() truths {
	all := truths{}
	for t := range r.guesses() {
		all[t] = true
	}
	for _, x := range r.trials {
		for t := range all {
			if !r.so(t, x) {
				delete(all, t)
			}
		}
	}
	return all
}

// possible returns whether there would be a truth if just this had been tried.
func (r ring) possible(trials []trial) bool {
	possible := false
guesses:
	for t := range r.guesses() {
		for _, x := range trials {
			if !r.so(t, x) {
				continue guesses
			}
		}
		possible = true
		break guesses
	}
	return possible
}

// possibleWithout returns whether there would be a truth without these tries.
func (r ring) possibleWithout(tries set) bool {
	return r.possible(without(r.trials, tries))
}

package vault

import (
	"iter"
	"slices"
	"sync"

	"gladstone/api"
)

// truths goes through all truths, in lexicographic order: the same list, changed for each.
func (v vault) truths() iter.Seq[[]int] {
	return func(yield func([]int) bool) {
		truth := make([]int, len(v.Calls))
		var extend func(call int) bool
		extend = func(call int) bool {
			if call == len(truth) {
				return yield(truth)
			}
			for _, piece := range v.Calls[call] {
				truth[call] = piece
				if !extend(call + 1) {
					return false
				}
			}
			return true
		}
		extend(0)
	}
}

// number is a number of each truth.
type number func(truth []int) int

// fetches returns how many pieces the rule fetches in a truth.
func (v vault) fetches(r rule) number {
	p := porterOf(r)
	return func(truth []int) int {
		_, fetched := v.run(truth, p)
		return fetched
	}
}

// regret returns how many pieces more the rule fetches than the best one, at most.
func (v vault) regret(r rule) int {
	its, least := v.fetches(r), v.fetches(best())
	return v.tell(func(truth []int) int { return its(truth) - least(truth) }).all.most
}

// tally is the bounds of a number: in all truths, and in those in which a piece is asked for at a call.
type tally struct {
	all bounds[int]
	of  [api.VaultCalls][api.VaultPieces]bounds[int]
}

func (t *tally) add(truth []int, n int) {
	t.all.add(n)
	for call, piece := range truth {
		t.of[call][piece].add(n)
	}
}

// join adds all that the other tally was told.
func (t *tally) join(other tally) {
	t.all.join(other.all)
	for call, pieces := range other.of {
		for piece, b := range pieces {
			t.of[call][piece].join(b)
		}
	}
}

// tell returns the tally of the number. Truths with another piece for the call
// that has the most are run side by side.
func (v vault) tell(n number) tally {
	parts := v.parts()
	told := make(chan tally, len(parts))
	var runners sync.WaitGroup
	for _, part := range parts {
		runners.Add(1)
		go func() {
			defer runners.Done()
			told <- part.look(n)
		}()
	}
	runners.Wait()
	close(told)
	var all tally
	for t := range told {
		all.join(t)
	}
	return all
}

// look goes through the truths one after the other.
func (v vault) look(n number) tally {
	var t tally
	for truth := range v.truths() {
		t.add(truth, n(truth))
	}
	return t
}

// parts returns the vault for each piece of the call that has the most pieces,
// if it is known that this one is asked for.
func (v vault) parts() []vault {
	if len(v.Calls) == 0 {
		return []vault{v}
	}
	longest := slices.MaxFunc(v.Calls, func(a, b []int) int { return len(a) - len(b) })
	call := slices.IndexFunc(v.Calls, func(list []int) bool { return len(list) == len(longest) })
	var parts []vault
	for _, piece := range longest {
		parts = append(parts, v.known(call, piece))
	}
	return parts
}

// known returns the vault if it is known that the piece is asked for at the call.
func (v vault) known(call, piece int) vault {
	v.Calls = slices.Clone(v.Calls)
	v.Calls[call] = []int{piece}
	return v
}

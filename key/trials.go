package key

import (
	"iter"

	"gladstone/api"
)

// pair is a key, and a lock in which it is tried.
type pair struct{ key, lock int }

func (p pair) both() pair { return p }

// trial is a key that was tried in a lock: a turn, or a jam.
type trial interface{ both() pair }

type (
	// turn is a key that opened the lock.
	turn struct{ pair }

	// jam is a key that did not open it.
	jam struct{ pair }
)

func tried(p pair, opens bool) trial {
	if opens {
		return turn{p}
	}
	return jam{p}
}

// so returns whether this would come of the trial if it was the truth.
func (r ring) so(t truth, x trial) bool {
	opens := r.opens(t, x.both())
	switch x.(type) {
	case turn:
		return opens
	default:
		return !opens
	}
}

// opens returns whether the key opens the lock in the truth.
func (r ring) opens(t truth, p pair) bool { return r.opened[p.key][t[p.key]].has(p.lock) }

// times returns in how many truths the key opens the lock.
func (r ring) times(p pair) int {
	return r.truths.times(func(t truth) bool { return r.opens(t, p) })
}

// verdict returns whether the key opens the lock.
func (r ring) verdict(p pair) int {
	switch r.times(p) {
	case len(r.truths):
		return api.Always
	case 0:
		return api.NoWay
	}
	return api.Perhaps
}

// left returns how many truths are left at most if the key is tried in the lock.
func (r ring) left(p pair) int {
	n := r.times(p)
	return max(n, len(r.truths)-n)
}

// question returns the pair after which the fewest truths are left at most.
func (r ring) question() least[pair] {
	asked := least[pair]{of: r.left}
	each(asked.show, r.pairs())
	return asked
}

// pairs goes through all pairs.
func (r ring) pairs() iter.Seq[pair] {
	return func(yield func(pair) bool) {
		for key := range r.Keys {
			for lock := range r.Locks {
				if !yield(pair{key, lock}) {
					return
				}
			}
		}
	}
}

// fitting returns the locks in which the keys can have been turned like this.
func (r ring) fitting(turns []api.Turn) set {
	var fitting set
	for lock := range r.Locks {
		trials := r.trials[:len(r.trials):len(r.trials)]
		for _, t := range turns {
			trials = append(trials, tried(pair{t.Key, lock}, t.Opens))
		}
		if r.possible(trials) {
			fitting = fitting.with(lock)
		}
	}
	return fitting
}

package key

// cover returns whether in each truth one of the keys opens each lock.
func (r ring) cover(keys set) bool {
	return r.truths.always(func(t truth) bool {
		var opened set
		for _, key := range keys.list() {
			opened |= r.opened[key][t[key]]
		}
		return opened == firsts(len(r.Locks))
	})
}

// tell returns whether in each truth one of the keys tells any two locks apart.
func (r ring) tell(keys set) bool {
	return r.truths.always(func(t truth) bool {
		for lock := range r.Locks {
			for other := range lock {
				if !r.apart(t, keys, lock, other) {
					return false
				}
			}
		}
		return true
	})
}

// apart returns whether one of the keys tells the locks apart in the truth.
func (r ring) apart(t truth, keys set, lock, other int) bool {
	for _, key := range keys.list() {
		if r.opens(t, pair{key, lock}) != r.opens(t, pair{key, other}) {
			return true
		}
	}
	return false
}

// alike returns whether no key tells the locks apart in any truth.
func (r ring) alike(lock, other int) bool {
	return r.truths.times(func(t truth) bool { return r.apart(t, firsts(len(r.Keys)), lock, other) }) == 0
}

// groups returns a number for each lock, which is the same one for those that are alike.
func (r ring) groups() []int {
	var groups []int
	free := 0 // the least number that no lock has
	for lock := range r.Locks {
		group := free
		for other := range lock {
			if r.alike(lock, other) {
				group = groups[other]
			}
		}
		free = max(free, group+1)
		groups = append(groups, group)
	}
	return groups
}

package barrow

// known is when the barrows can be back if all jobs up to one are done in time.
type known map[barrows]bool

// thin takes off the barrows that are never better than other ones: those do
// all in time that these do.
func (k known) thin() {
	for there := range k {
		for other := range k {
			if other != there && other.noLater(there) {
				delete(k, there)
				break
			}
		}
	}
}

// possible returns whether there is a plan in time.
func (h haul) possible() bool {
	all := make([]known, len(h.jobs)+1) // by the number of jobs that are done
	for done := range all {
		all[done] = known{}
	}
	all[0][h.start()] = true
	for done := range h.jobs {
		all[done].thin()
		for there := range all[done] {
			h.goOn(there, all[done+1:])
		}
		clear(all[done])
	}
	return len(all[len(h.jobs)]) > 0
}

// goOn notes when the barrows can be back after the next trip, with what is
// known if one job more is done, two, and so on.
func (h haul) goOn(there barrows, later []known) {
	left := len(later)
	for load := range numbers(1, min(h.Load, left)) {
		after, became := h.send(there, h.cut(len(h.jobs)-left, load))
		switch became.(type) {
		case punctual:
			later[load-1][after] = true
		}
	}
}

// possibleWith returns whether there is a plan in time with another number for a part.
func (h haul) possibleWith(changed part) func(number int) bool {
	return func(number int) bool { return h.with(changed, number).possible() }
}

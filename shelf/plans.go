package shelf

import (
	"slices"
	"sync"

	"gladstone/api"
)

// tried is a shelf with a full plan, and its moves.
type tried struct {
	shelf
	moves
}

func (t tried) most() int { return t.worst }

func (t tried) fewest() int { return t.luck }

// book is where those who try plans write those that they found.
type book struct {
	sync.Mutex
	found []tried
}

func (b *book) write(t tried) {
	b.Lock()
	defer b.Unlock()
	b.found = append(b.found, t)
}

// plans returns all full plans, in lexicographic order. Those with another lane
// for the next piece are tried side by side.
func (s shelf) plans() []tried {
	var b book
	if s.full() {
		b.write(tried{s, s.moves()})
		return b.found
	}
	var triers sync.WaitGroup
	for lane := range s.Lanes {
		triers.Add(1)
		go func() {
			defer triers.Done()
			s.try(lane, b.write)
		}()
	}
	triers.Wait()
	slices.SortFunc(b.found, func(x, y tried) int { return slices.Compare(x.plan[:], y.plan[:]) })
	return b.found
}

// try goes through the full plans with this lane for the next piece.
func (s shelf) try(lane int, take func(tried)) {
	s.known = memory{} // that of others is theirs
	for lanes := range lists(s.choices(lane)) {
		filled, err := s.fill(lanes[s.came:len(s.Bags)]...)
		if lacksRoom(err) {
			continue
		}
		take(tried{filled, filled.moves()})
	}
}

// choices returns the lanes that the pieces can be put into if the next one is put into this lane.
func (s shelf) choices(lane int) bands {
	var b bands
	b[s.came] = api.Band{Min: lane, Max: lane}
	for piece := s.came + 1; piece < len(s.Bags); piece++ {
		b[piece].Max = len(s.Lanes) - 1
	}
	return b
}

// openPlans returns all full plans of a shelf, or the first error: ErrEmpty, if
// nothing else is wrong, unless there is one.
func openPlans(given api.Shelf) ([]tried, api.Errno) {
	work, e := open(given)
	if e != api.OK {
		return nil, e
	}
	plans := work.plans()
	if len(plans) == 0 {
		return nil, api.ErrEmpty
	}
	return plans, api.OK
}

// first returns the first one of the plans of which the number is least.
func first(plans []tried, of func(tried) int) tried {
	kept := least[tried]{of: of}
	each(plans, kept.offer)
	return kept.kept
}

// next returns the shelf with the next piece in the lane that is best for it.
func (s shelf) next() (tried, api.Errno) {
	if s.full() {
		return tried{}, api.ErrClosed
	}
	kept := least[tried]{of: tried.most}
	for lane := range s.Lanes {
		filled, err := s.fill(lane)
		if !lacksRoom(err) {
			kept.offer(tried{filled, filled.moves()})
		}
	}
	return kept.found()
}

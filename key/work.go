package key

import (
	"slices"
	"sync"

	"gladstone/api"
)

// ring is a ring at work.
type ring struct {
	api.Ring
	opened openings
	trials []trial // what was tried
	truths truths
}

// openings is the locks that each key opens, worn by each number.
type openings [api.KeyKeys][api.KeyWear + 1]set

// open returns the ring at work, or the first error of it and of other arguments.
func open(given api.Ring, demands ...demand) (ring, api.Errno) {
	if e := refusal(given, demands...); e != api.OK {
		return ring{}, e
	}
	return begin(given), api.OK
}

// openTrue is open; ErrEmpty if there is no truth.
func openTrue(given api.Ring, demands ...demand) (ring, api.Errno) {
	work, e := open(given, demands...)
	if e == api.OK && len(work.truths) == 0 {
		return ring{}, api.ErrEmpty
	}
	return work, e
}

// begin returns a valid ring at work.
func begin(given api.Ring) ring {
	work := ring{Ring: given}
	work.opened = work.findOpened()
	for _, t := range given.Tries {
		work.trials = append(work.trials, tried(pair{t.Key, t.Lock}, t.Opens))
	}
	work.truths = work.findTruths()
	return work
}

// found is the locks that a key opens if it is worn by a number.
type found struct {
	key, wear int
	locks     set
}

// findOpened returns what all keys open. They are looked at side by side.
func (r ring) findOpened() openings {
	all := make(chan found, api.KeyKeys*(api.KeyWear+1))
	var lookers sync.WaitGroup
	for key := range r.Keys {
		lookers.Add(1)
		go func() {
			defer lookers.Done()
			for wear := range api.KeyWear + 1 {
				all <- found{key, wear, r.openedBy(r.depths(key).worn(wear))}
			}
		}()
	}
	lookers.Wait()
	close(all)
	var opened openings
	for {
		f, more := <-all
		if !more {
			return opened
		}
		opened[f.key][f.wear] = f.locks
	}
}

// openedBy returns the locks that the depths open.
func (r ring) openedBy(d depths) set {
	var opened set
locks:
	for lock, bands := range r.Locks {
		for cut := range r.Cuts {
			if !within(d[cut], bands[cut].Min, bands[cut].Max) {
				continue locks
			}
		}
		opened = opened.with(lock)
	}
	return opened
}

// adding returns a new ring with one try more.
func (r ring) adding(t api.Try) api.Ring {
	added := api.Ring{Cuts: r.Cuts}
	for _, k := range r.Keys {
		added.Keys = append(added.Keys, api.Key{Cuts: slices.Clone(k.Cuts), Wear: k.Wear})
	}
	for _, bands := range r.Locks {
		added.Locks = append(added.Locks, slices.Clone(bands))
	}
	tries := len(r.Tries)
	added.Tries = append(r.Tries[:tries:tries], t) // new memory, as there is no room behind it
	return added
}

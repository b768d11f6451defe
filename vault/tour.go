package vault

import (
	"iter"

	"gladstone/api"
)

// place is a place in the calls: how many came, and what is in the office then.
type place struct {
	call int
	in   office
}

// fetched returns how many pieces are fetched on the way to the next place.
func (p place) fetched(next place) int {
	if next == (place{p.call + 1, p.in}) { // nothing happens
		return 0
	}
	return 1
}

// tour is a vault at work in a truth.
type tour struct {
	vault
	truth []int
	known map[place]int // the fewest pieces that are fetched from a place on
}

// openTruth returns the vault at work in the truth, or the first error.
func openTruth(given api.Vault, truth []int) (tour, api.Errno) {
	work, e := open(given)
	if e != api.OK {
		return tour{}, e
	}
	if err := work.checkTruth(truth); err != nil {
		return tour{}, code(err)
	}
	return tour{work, truth, map[place]int{}}, api.OK
}

func (t tour) begin() place { return place{0, t.start.in} }

// steps goes through the pieces that can be sent at the place, ascending (none
// if nothing is sent), and the next place then.
func (t tour) steps(at place) iter.Seq2[int, place] {
	return func(yield func(int, place) bool) {
		piece := t.truth[at.call]
		if at.in.has(piece) || at.in.size() < t.Places {
			yield(none, place{at.call + 1, at.in.with(piece)})
			return
		}
		for sent := range at.in.all() {
			if !yield(sent, place{at.call + 1, at.in.without(sent).with(piece)}) {
				return
			}
		}
	}
}

// fewest returns the fewest pieces that are fetched from the place on.
func (t tour) fewest(at place) int {
	if at.call == len(t.truth) {
		return 0
	}
	if n, is := t.known[at]; is {
		return n
	}
	var all bounds[int]
	for _, next := range t.steps(at) {
		all.add(at.fetched(next) + t.fewest(next))
	}
	t.known[at] = all.least
	return all.least
}

// places returns the least number of places with which so many pieces are
// enough; ErrEmpty if there is none.
func (t tour) places(fetched int) (int, api.Errno) {
	least := max(1, len(t.Start))
	for more := range api.VaultPieces - least + 1 {
		wider := tour{t.vault, t.truth, map[place]int{}}
		wider.Places = least + more
		if wider.fewest(wider.begin()) <= fetched {
			return wider.Places, api.OK
		}
	}
	return 0, api.ErrEmpty
}

// phases returns the calls with which the phases begin.
func (t tour) phases() []int {
	var begins []int
	call := 0
next:
	if begin := call; begin < len(t.truth) {
		begins = append(begins, begin)
		for call < len(t.truth) && t.asked(begin, call).size() <= t.Places {
			call++
		}
		goto next
	}
	return begins
}

// asked returns the pieces that are asked for from a call up to another one.
func (t tour) asked(from, to int) office { return empty.join(office.with, t.truth[from:to+1]...) }

package pile

import "gladstone/api"

// fate is what becomes of a piece under its load: it is crushed, or not.
type fate interface {
	spare() int // how much more it bears
}

type (
	crushed struct{ over int }
	whole   struct{ more int }
)

func (c crushed) spare() int { return -c.over }

func (w whole) spare() int { return w.more }

func isCrushed(f fate) bool {
	switch f.(type) {
	case crushed:
		return true
	}
	return false
}

// fate returns what becomes of the piece at the place, if the pieces weigh so much.
func (y yard) fate(p pile, place int, weights numbers) fate {
	load, bears := weights.of(p.above(place)), y.Parcels[p[place].least()].Bears
	if load > bears {
		return crushed{load - bears}
	}
	return whole{bears - load}
}

// stands returns whether the pile stands, if the pieces weigh so much.
func (y yard) stands(p pile, weights numbers) bool {
	for place := range p.size() {
		if isCrushed(y.fate(p, place, weights)) {
			return false
		}
	}
	return true
}

// surely returns whether the pile is not too high, and stands surely.
func (y yard) surely(p pile) bool { return !y.high(p) && y.stands(p, y.heavy) }

// standing returns whether the pile stands. No case is better for any of its
// pieces than the best one is, and none is worse than the worst one.
func (y yard) standing(p pile) int { return verdict(y.stands(p, y.light), y.stands(p, y.heavy)) }

// crushing returns whether the piece at the place is crushed.
func (y yard) crushing(p pile, place int) int {
	return verdict(isCrushed(y.fate(p, place, y.heavy)), isCrushed(y.fate(p, place, y.light)))
}

// verdict returns the verdict on what is so in some case, and in all.
func verdict(some, all bool) int {
	v := 0
	switch {
	case some:
		v = api.Always
		if all {
			break
		}
		fallthrough
	default:
		v |= api.NoWay // what is so in some, and not in others, is Perhaps, which is both
	}
	return v
}

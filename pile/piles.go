package pile

import (
	"iter"
	"slices"

	"gladstone/api"
)

// piles goes through the piles of some of these pieces that stand surely, in
// lexicographic order. (No pile does if it begins with one that does not.)
func (y yard) piles(of set) iter.Seq[pile] {
	return func(yield func(pile) bool) {
		var p pile
		var build func(place int, left set) bool
		build = func(place int, left set) bool {
			if !y.surely(p) {
				return true
			}
			if !yield(p) {
				return false
			}
			defer p.cut(place)
			for piece := range left.all() {
				p[place] = one << piece
				if !build(place+1, left.less(p[place])) {
					return false
				}
			}
			return true
		}
		build(0, of)
	}
}

// orders returns the orders of all these pieces that stand surely, in lexicographic order.
func (y yard) orders(of set) []pile {
	return filter(slices.Collect(y.piles(of)), func(p pile) bool { return p.pieces() == of })
}

// order returns the first one of these orders; ErrEmpty if there is none.
func (y yard) order(of set) (pile, api.Errno) {
	for p := range y.piles(of) {
		if p.pieces() == of {
			return p, api.OK
		}
	}
	return pile{}, api.ErrEmpty
}

// mend returns the fewest exchanges that make of the pile one that stands surely, and this one.
func (y yard) mend(p pile) (exchanges int, mended pile, e api.Errno) {
	made := p.exchanges()
	kept := best[pile]{rank: func(order pile) int { return made[order] }}
	each(y.orders(p.pieces()), kept.offer)
	mended, e = kept.found()
	return made[mended], mended, e
}

// most returns the first one of the longest piles that stand surely.
func (y yard) most() pile {
	kept := best[pile]{rank: func(p pile) int { return -p.size() }}
	each(slices.Collect(y.piles(y.all())), kept.offer)
	return kept.kept
}

// fewest returns the first list of the fewest piles that stand surely, in which
// all pieces are; ErrEmpty if there is none.
func (y yard) fewest() ([]pile, api.Errno) {
	kept := best[[]pile]{rank: func(list []pile) int { return len(list) }}
	y.share(nil, y.all(), kept.offer)
	return kept.found()
}

// share goes through the lists of piles that begin with these, and in which all
// pieces that are left are, in lexicographic order.
func (y yard) share(list []pile, left set, take func([]pile)) {
	if left == none {
		kept := make([]pile, len(list))
		copy(kept, list)
		take(kept)
		return
	}
	before := none // the lowest piece of the last pile
	if len(list) > 0 {
		before = list[len(list)-1][0]
	}
	for p := range y.piles(left) {
		if p[0] > before {
			y.share(append(list, p), left.less(p.pieces()), take)
		}
	}
}

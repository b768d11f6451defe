package pile

import "gladstone/api"

// pile is the pieces of a pile, from the lowest one up, each of them alone in a
// set; nothing is above the highest one. So piles are compared in lexicographic
// order just as the numbers of their pieces are.
type pile [api.PilePieces]set

func (p pile) empty() bool { return p == pile{} }

// from returns the pieces at the place and above it.
func (p pile) from(place int) set {
	pieces := none
	for _, piece := range p[place:] {
		pieces |= piece
	}
	return pieces
}

func (p pile) pieces() set { return p.from(0) }

// above returns the pieces above the place.
func (p pile) above(place int) set { return p.from(place + 1) }

func (p pile) size() int { return p.pieces().size() }

// cut takes off all pieces from the place on.
func (p *pile) cut(place int) { clear(p[place:]) }

// exchange returns the pile with the pieces at the place and above it exchanged.
func (p pile) exchange(place int) pile {
	p[place], p[place+1] = p[place+1], p[place]
	return p
}

// exchanges returns for each order of the pieces the fewest exchanges that make it of the pile.
func (p pile) exchanges() map[pile]int {
	made := map[pile]int{p: 0}
	for waiting := []pile{p}; len(waiting) > 0; waiting = waiting[1:] {
		at, place := waiting[0], 0
	next:
		if place+1 < p.size() {
			other := at.exchange(place)
			if _, is := made[other]; !is {
				made[other] = made[at] + 1
				waiting = append(waiting, other)
			}
			place++
			goto next
		}
	}
	return made
}

// list returns the numbers of the pieces.
func (p pile) list() []int {
	var list []int
	for place := range p.size() {
		list = append(list, p[place].least())
	}
	return list
}

package shelf

import (
	"iter"

	"gladstone/api"
)

// moves is how many pieces are moved in the luckiest and in the worst truth.
type moves struct{ luck, worst int }

// memory is what was found: the moves of a lane with these pieces.
type memory map[set]moves

// moves returns the moves of the plan. Pieces of different lanes never are in
// one another's way, so each lane has its own luckiest and worst truth.
func (s shelf) moves() moves {
	var all moves
	for lane := range s.Lanes {
		m := s.movesOf(s.row(lane))
		all.luck += m.luck
		all.worst += m.worst
	}
	return all
}

// movesOf returns the moves of a lane with these pieces.
func (s shelf) movesOf(row set) moves {
	if m, is := s.known[row]; is {
		return m
	}
	m := s.look(row)
	s.known[row] = m
	return m
}

// look goes through the truths of a lane with these pieces.
func (s shelf) look(row set) moves {
	limits := s.limits(row)
	m := moves{luck: limits.worst}
truths:
	for t := range lists(s.hours(row)) {
		n := moved(row, t)
		m.luck, m.worst = min(m.luck, n), greatest(m.worst, n)
		if m == limits { // no other truth is luckier, or worse
			break truths
		}
	}
	return m
}

// limits returns how many pairs of the row always are moved, and how many can be.
func (s shelf) limits(row set) moves {
	var m moves
	for i, k := range row.pairs() {
		switch number(s.judge(i, k)) {
		case api.Always:
			m.luck++
			fallthrough // in the worst truth it is moved, too
		case api.Perhaps:
			m.worst++
		}
	}
	return m
}

// truth is the hour at which each piece is fetched.
type truth [api.ShelfPieces]int

// moved returns how many pieces of the row are moved in the truth.
func moved(row set, t truth) int {
	n := 0
	for i, k := range row.pairs() {
		if t[i] < t[k] {
			n++
		}
	}
	return n
}

// bands is what is known of a number for each piece.
type bands [api.ShelfPieces]api.Band

// hours returns what is known of the truths of a row; all other pieces, which
// do not matter, are fetched at the hour 0.
func (s shelf) hours(row set) bands {
	var b bands
	for piece := range row.all() {
		b[piece] = s.Bags[piece].Out
	}
	return b
}

// lists goes through all lists of numbers within the bands, in lexicographic order.
func lists(b bands) iter.Seq[[api.ShelfPieces]int] {
	return func(yield func([api.ShelfPieces]int) bool) {
		var list [api.ShelfPieces]int
		var extend func(piece int) bool
		extend = func(piece int) bool {
			if piece == len(list) {
				return yield(list)
			}
			for more := range b[piece].Max - b[piece].Min + 1 {
				list[piece] = b[piece].Min + more
				if !extend(piece + 1) {
					return false
				}
			}
			return true
		}
		extend(0)
	}
}

package vault

import (
	"slices"

	"gladstone/api"
)

// line is the pieces in the office, in the order in which they came.
type line struct {
	pieces [api.VaultPlaces]int
	long   int
}

func (l *line) join(piece int) {
	l.pieces[l.long] = piece
	l.long++
}

func (l *line) leave(piece int) {
	place := slices.Index(l.pieces[:l.long], piece)
	copy(l.pieces[place:], l.pieces[place+1:l.long])
	l.long--
	clear(l.pieces[l.long:])
}

// desk is the office during a run.
type desk struct {
	in   office
	came line
	rest []int // the calls that come
}

// put takes a piece into the office.
func (d *desk) put(piece int) {
	d.in = d.in.with(piece)
	d.came.join(piece)
}

// send takes a piece out of the office.
func (d *desk) send(piece int) {
	d.in = d.in.without(piece)
	d.came.leave(piece)
}

// renew makes a piece in the office one that came just now.
func (d *desk) renew(piece int) {
	d.came.leave(piece)
	d.came.join(piece)
}

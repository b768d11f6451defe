package ticket

import "gladstone/api"

// desk is what can be in one history: the tickets that each piece can have, as
// far as its own half tells, those that each stub fits, and the pieces of which
// it can be. A question narrows some of these, and asks whether there still is
// a truth.
type desk struct {
	history
	pieces [api.TicketPieces]set
	stubs  [api.TicketStubs]set
	owners [api.TicketStubs]set
	count  int // how many pieces there are
	asked  set // the stubs that are looked at
	known  memory
}

func (r roll) desk(h history) desk {
	d := desk{history: h, count: len(r.Pieces), asked: span(0, len(r.Stubs)), known: r.known}
	for i, x := range r.Pieces {
		d.pieces[i] = h.fitting(x)
	}
	for i, x := range r.Stubs {
		d.stubs[i] = h.fitting(x)
		d.owners[i] = span(0, d.count)
	}
	return d
}

// narrow returns the desk if the piece has one of these tickets.
func (d desk) narrow(piece int, tickets set) desk {
	d.pieces[piece] &= tickets
	return d
}

// give returns the desk if the stub is of the piece.
func (d desk) give(stub, piece int) desk {
	d.owners[stub] &= one(piece)
	return d
}

// without returns the desk if the stubs are not looked at.
func (d desk) without(stubs set) desk {
	d.asked = d.asked.less(stubs)
	return d
}

// enough ends a search that has found.
type enough struct{}

// possible returns whether there is a truth.
func (d desk) possible() (found bool) {
	defer func() {
		_, found = recover().(enough)
	}()
	d.search(d.asked, span(0, d.count))
	return false
}

// search gives each of the stubs that are left to another one of the pieces
// that are free, which narrows the tickets of this piece, and panics with
// enough if all pieces can have different numbers then.
func (d desk) search(left, free set) {
	if left == 0 {
		if d.differ() {
			panic(enough{})
		}
		return
	}
	stub := left.least()
	for piece := range d.count {
		if d.owners[stub].has(piece) && free.has(piece) {
			d.narrow(piece, d.stubs[stub]).search(left.less(one(stub)), free.less(one(piece)))
		}
	}
}

// differ returns whether all pieces can have different numbers.
func (d desk) differ() bool {
	if is, ok := d.known[d.pieces]; ok {
		return is
	}
	is := d.suffice()
	d.known[d.pieces] = is
	return is
}

// suffice returns whether any pieces together can have as many tickets at least
// as they are: by Hall's theorem all can have different ones just then.
func (d desk) suffice() bool {
	for some := range one(d.count) {
		var tickets set
		for piece := range some.all() {
			tickets |= d.pieces[piece]
		}
		if tickets.size() < some.size() {
			return false
		}
	}
	return true
}

// first returns the pieces' numbers and the stubs' pieces of the first truth,
// of which there is one: each is the least with which there still is a truth.
func (d desk) first() (numbers, pieces []int) {
	for piece := range d.count {
		n := numberOf{piece}.answers(d).least()
		d = d.narrow(piece, one(n))
		numbers = append(numbers, d.history[0]+n)
	}
	for stub := range d.asked.all() {
		piece := ownerOf{stub}.answers(d).least()
		d = d.give(stub, piece)
		pieces = append(pieces, piece)
	}
	return numbers, pieces
}

package ticket

import "gladstone/api"

// want is what is wanted of truths. An answer is a small number: answers
// returns those that the truths with the history of the desk give.
type want interface{ answers(d desk) set }

type (
	earliest struct{}                  // is there a truth: 0
	every    struct{}                  // likewise, of all histories
	nextAt   struct{ hour int }        // how many tickets are torn before the hour
	tornIn   struct{ hour int }        // how many are torn in it
	numberOf struct{ piece int }       // the ticket of the piece
	hourOf   struct{ piece int }       // the hour in which it is torn
	isBefore struct{ a, b int }        // has the piece a the lesser number: yes or no
	ownerOf  struct{ stub int }        // the piece of the stub
	gap      struct{ stub, piece int } // how far a ticket that the stub fits is from the piece's
	forged   struct{}                  // which of the suspects are left out
)

// The answers to isBefore.
const (
	no  = 0
	yes = 1
)

// alone returns the answer n if there is a truth.
func (d desk) alone(n int) set {
	if d.possible() {
		return one(n)
	}
	return 0
}

func (earliest) answers(d desk) set { return d.alone(0) }

func (every) answers(d desk) set { return d.alone(0) }

func (w nextAt) answers(d desk) set { return d.alone(d.since(w.hour)) }

func (w tornIn) answers(d desk) set { return d.alone(d.torn(w.hour).size()) }

func (w numberOf) answers(d desk) (found set) {
	for n := range d.pieces[w.piece].all() {
		found |= d.narrow(w.piece, one(n)).alone(n)
	}
	return found
}

func (w hourOf) answers(d desk) (found set) {
	for hour := range api.TicketHours {
		found |= d.narrow(w.piece, d.torn(hour)).alone(hour)
	}
	return found
}

func (w isBefore) answers(d desk) (found set) {
	for n := range d.pieces[w.a].all() {
		fixed := d.narrow(w.a, one(n))
		found |= fixed.narrow(w.b, span(0, n)).alone(no)
		found |= fixed.narrow(w.b, span(n+1, api.TicketHours*api.TicketPer)).alone(yes)
	}
	return found
}

func (w ownerOf) answers(d desk) (found set) {
	for piece := range d.count {
		found |= d.give(w.stub, piece).alone(piece)
	}
	return found
}

func (w gap) answers(d desk) (found set) {
	others := d.without(one(w.stub))
	numbers := numberOf{w.piece}.answers(others)
	for n := range numbers.all() {
		for m := range d.stubs[w.stub].all() {
			found |= one(max(n-m, m-n))
		}
	}
	return found
}

// suspects returns all sets of stubs, the smaller ones first, and those of one
// size in the lexicographic order of their lists.
func suspects() [1 << api.TicketStubs]set {
	return [...]set{0, one(0), one(1), one(2), one(0) | one(1), one(0) | one(2), one(1) | one(2), span(0, 3)}
}

func (forged) answers(d desk) (found set) {
	for i, some := range suspects() {
		if some.less(d.asked) == 0 {
			found |= d.without(some).alone(i)
		}
	}
	return found
}

// satisfied returns whether no other history can tell more than these answers.
func satisfied(w want, found set) bool {
	switch w.(type) {
	case earliest, gap, forged: // only the least answer counts
		return found.has(0)
	case isBefore:
		return found.has(yes) && found.has(no)
	}
	return false
}

// verdict returns in how many of the truths that give these answers it is the wanted one.
func verdict(found set, wanted int) int {
	v := 0
	switch sure := found == one(wanted); {
	case found.has(wanted):
		v = api.Always
		if sure {
			break
		}
		fallthrough
	default:
		v |= api.NoWay // what is so in some, and not in others, is Perhaps, which is both
	}
	return v
}

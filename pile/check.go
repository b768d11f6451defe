package pile

import "gladstone/api"

func within(n, from, to int) bool { return from <= n && n <= to }

func checkYard(y api.Yard) api.Errno {
	if len(y.Parcels) > api.PilePieces {
		return api.ErrMany
	}
	for _, p := range y.Parcels {
		if e := checkParcel(p); e != api.OK {
			return e
		}
	}
	if !within(y.Limit, 1, api.PileLimit) {
		return api.ErrAmount
	}
	return api.OK
}

func checkParcel(p api.Parcel) api.Errno {
	if !within(p.Weight.Min, 1, api.PileWeight) || !within(p.Weight.Max, 1, api.PileWeight) {
		return api.ErrAmount
	}
	if p.Weight.Min > p.Weight.Max {
		return api.ErrOrder
	}
	if !within(p.Bears, 0, api.PileBears) || !within(p.Tall, 1, api.PileTall) {
		return api.ErrAmount
	}
	return api.OK
}

// open returns the yard at work, or its first error.
func open(given api.Yard) (yard, api.Errno) {
	if e := checkYard(given); e != api.OK {
		return yard{}, e
	}
	work := yard{Yard: given}
	for piece, p := range given.Parcels {
		work.light[piece], work.heavy[piece], work.tall[piece] = p.Weight.Min, p.Weight.Max, p.Tall
	}
	return work, api.OK
}

// openPile returns the yard at work and the pile of these pieces, or the first error.
func openPile(given api.Yard, pieces []int) (work yard, p pile, e api.Errno) {
	work, e = open(given)
	if e != api.OK {
		return yard{}, pile{}, e
	}
	defer func() {
		if x := recover(); x != nil {
			work, p, e = yard{}, pile{}, x.(api.Errno)
		}
	}()
	return work, work.pile(pieces), api.OK
}

// pile returns the pile of these pieces; it panics with an error if there may not be one.
func (y yard) pile(pieces []int) pile {
	var p pile
	for place, piece := range pieces {
		if !within(piece, 0, len(y.Parcels)-1) {
			panic(api.ErrUnknown)
		}
		if p.pieces().has(piece) {
			panic(api.ErrRepeat)
		}
		p[place] = one << piece
	}
	if y.high(p) {
		panic(api.ErrSize)
	}
	return p
}

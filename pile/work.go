package pile

import "gladstone/api"

// numbers is a number for each piece: its weight in a case, or how tall it is.
type numbers [api.PilePieces]int

// of returns the numbers of the pieces together.
func (n numbers) of(pieces set) int {
	list := make([]int, 0, len(n))
	for piece := range pieces.all() {
		list = append(list, n[piece])
	}
	return sum(list...)
}

func sum(list ...int) int {
	total := 0
	for _, n := range list {
		total += n
	}
	return total
}

// yard is a yard at work.
type yard struct {
	api.Yard
	light, heavy numbers // the weights in the best case, and in the worst one
	tall         numbers
}

// all returns all pieces.
func (y yard) all() set { return one<<len(y.Parcels) - one }

// high returns whether the pile is higher than a pile may be.
func (y yard) high(p pile) bool { return y.tall.of(p.pieces()) > y.Limit }

// load returns the least and the greatest load of the place.
func (y yard) load(p pile, place int) api.Band {
	above := p.above(place)
	return api.Band{Min: y.light.of(above), Max: y.heavy.of(above)}
}

// spare returns what could be put on top of the pile in the worst case, and in
// the best one: as much as each of its pieces bears, and less than 0 if one is crushed.
func (y yard) spare(p pile) api.Band {
	spare := api.Band{Min: api.PileBears, Max: api.PileBears}
	for place := range p.size() {
		spare.Min = max(-1, min(spare.Min, y.fate(p, place, y.heavy).spare()))
		spare.Max = min(spare.Max, y.fate(p, place, y.light).spare())
	}
	return spare
}

// on returns the pieces with which on top the pile stands surely.
func (y yard) on(p pile) []int {
	others := y.all().less(p.pieces())
	return filter(others.list(), func(piece int) bool {
		with := p
		with[p.size()] = one << piece
		return y.surely(with)
	})
}

package shelf

import (
	"slices"

	"gladstone/api"
)

// plan is the lane of each piece that came; 0 for those that have not come.
type plan [api.ShelfPieces]int

// shelf is a shelf at work.
type shelf struct {
	api.Shelf
	plan  plan
	came  int // how many pieces
	known memory
}

// put puts the next piece into the lane; it panics with an error if it cannot.
func (s *shelf) put(lane int) {
	if !within(lane, 0, len(s.Lanes)-1) {
		panic(api.ErrUnknown)
	}
	if s.Bags[s.came].Long > s.room(lane) {
		panic(noRoom{})
	}
	s.plan[s.came] = lane
	s.came++
}

// fill returns the shelf with the next pieces in these lanes, or the error of
// the first one that cannot be put there.
func (s shelf) fill(lanes ...int) (filled shelf, err error) {
	defer func() {
		if x := recover(); x != nil {
			filled, err = shelf{}, x.(error)
		}
	}()
next:
	if len(lanes) > 0 {
		s.put(lanes[0])
		lanes = lanes[1:]
		goto next
	}
	return s, nil
}

// full returns whether all pieces came.
func (s shelf) full() bool { return s.came == len(s.Bags) }

// row returns the pieces that stand in the lane.
func (s shelf) row(lane int) set {
	pieces := none
	for piece, its := range s.plan[:s.came] {
		if its == lane {
			pieces = pieces.with(piece)
		}
	}
	return pieces
}

// room returns how much of the lane's length is left.
func (s shelf) room(lane int) int {
	left := s.Lanes[lane]
	for piece := range s.row(lane).all() {
		left -= s.Bags[piece].Long
	}
	return left
}

// front returns the pieces that stand before the piece.
func (s shelf) front(piece int) set { return s.row(s.plan[piece]).after(piece) }

// used returns the lanes in which a piece stands.
func (s shelf) used() set {
	lanes := none
	for _, lane := range s.plan[:s.came] {
		lanes = lanes.with(lane)
	}
	return lanes
}

// list returns the lanes of the pieces that came.
func (s shelf) list() []int {
	list := make([]int, s.came)
	copy(list, s.plan[:s.came:s.came])
	return list
}

// told returns the shelf if it is known that the piece is fetched at the hour.
func (s shelf) told(piece, hour int) shelf {
	s.Bags = slices.Clone(s.Bags)
	s.Bags[piece].Out = api.Band{Min: hour, Max: hour}
	s.known = memory{}
	return s
}

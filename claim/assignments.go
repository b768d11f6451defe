package claim

import (
	"errors"
	"iter"
	"slices"

	"gladstone/api"
)

// nothing stands for a piece where a claimant has none.
const nothing = -1

// assignment is the piece of each claimant, or nothing.
type assignment [api.ClaimTold]int

func (a assignment) compare(b assignment) int { return slices.Compare(a[:], b[:]) }

// list returns the pieces of so many claimants.
func (a assignment) list(claimants int) []int {
	list := make([]int, claimants)
	copy(list, a[:])
	return list
}

// gain is what an assignment gives: how many pieces, with how many mistakes.
type gain struct{ gives, mistakes int }

func (g gain) worth() gain { return g }

func (g gain) better(h gain) bool {
	return g.gives > h.gives || g.gives == h.gives && g.mistakes < h.mistakes
}

// draft is an assignment that is filled for so many claimants, and the pieces that they have.
type draft struct {
	assignment
	gain
	filled int
	given  set
}

// blank returns the draft that is not filled for any claimant.
func blank() draft {
	var d draft
	for claimant := range d.assignment {
		d.assignment[claimant] = nothing
	}
	return d
}

// place gives the next claimant a piece or nothing; an error if they may not have it.
func (c claims) place(d *draft, piece int) error {
	claimant := d.filled
	d.assignment[claimant] = piece
	d.filled++
	if piece == nothing {
		return nil
	}
	if !within(piece, 0, len(c.Pieces)-1) {
		return misplaced{api.ErrUnknown}
	}
	if who, is := c.persons[claimant].(owner); !is || !who.pieces.has(piece) {
		return misplaced{api.ErrKind}
	}
	if d.given.has(piece) {
		return misplaced{api.ErrRepeat}
	}
	d.given = d.given.with(piece)
	d.gives++
	d.mistakes += c.mistakes(claimant, piece).size()
	return nil
}

// drafted returns the assignment of this list, or its first error.
func (c claims) drafted(list []int) (draft, error) {
	if e := checkLength(list, len(c.Told)); e != api.OK {
		return draft{}, misplaced{e}
	}
	d := blank()
	for _, piece := range list {
		if err := c.place(&d, piece); err != nil {
			return draft{}, err
		}
	}
	return d, nil
}

// choices returns what a claimant can have in an assignment, ascending.
func choices(who person) []int {
	switch who := who.(type) {
	case owner:
		return join([]int{nothing}, who.pieces.list())
	default:
		return []int{nothing}
	}
}

// drafts goes through all drafts that go on from this one, and are filled for so
// many claimants, in lexicographic order.
func (c claims) drafts(begun draft, claimants int) iter.Seq[draft] {
	return func(yield func(draft) bool) {
		d := begun
		var fill func() bool
		try := func(piece int) bool {
			before := d
			defer func() { d = before }() // takes the piece back
			if err := c.place(&d, piece); errors.Is(err, api.ErrRepeat) {
				return true
			}
			return fill()
		}
		fill = func() bool {
			if d.filled == claimants {
				return yield(d)
			}
			for _, piece := range choices(c.persons[d.filled]) {
				if !try(piece) {
					return false
				}
			}
			return true
		}
		fill()
	}
}

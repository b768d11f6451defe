package pile

import (
	"iter"
	"math/bits"
	"slices"
)

// set is some of the pieces: each of them is a bit.
type set uint8

const (
	none set = iota
	one      // the piece 0
)

func (s set) less(others set) set { return s &^ others }

func (s set) has(piece int) bool { return s&(one<<piece) != none }

func (s set) size() int { return bits.OnesCount8(uint8(s)) }

func (s set) least() int { return bits.TrailingZeros8(uint8(s)) }

// all goes through the pieces, ascending.
func (s set) all() iter.Seq[int] {
	return func(yield func(int) bool) {
		for rest := s; rest != none; rest &= rest - 1 {
			if !yield(rest.least()) {
				return
			}
		}
	}
}

func (s set) list() []int { return slices.Collect(s.all()) }

// compare compares the lists of two sets in lexicographic order.
func (s set) compare(t set) int { return slices.Compare(s.list(), t.list()) }

// parts returns all sets of some of these pieces, in the lexicographic order of their lists.
func (s set) parts() []set {
	var parts []set
	for part := range s + 1 {
		if part.less(s) == none {
			parts = append(parts, part)
		}
	}
	slices.SortFunc(parts, set.compare)
	return parts
}

package claim

import (
	"cmp"
	"math/bits"
	"slices"
)

// set is some of the pieces, of the claimants, or of the features: each of them is a bit.
type set uint8

const (
	none set = iota
	one      // the piece, the claimant, or the feature 0
)

func (s set) with(n int) set { return s | one<<n }

func (s set) has(n int) bool { return s&(one<<n) != none }

func (s set) less(others set) set { return s &^ others }

func (s set) size() int { return bits.OnesCount8(uint8(s)) }

// list returns the numbers, ascending.
func (s set) list() []int {
	var list []int
	for n := range bits.Len8(uint8(s)) {
		if s.has(n) {
			list = append(list, n)
		}
	}
	return list
}

// compare puts fewer before more, and otherwise lists in lexicographic order.
func (s set) compare(t set) int {
	return cmp.Or(cmp.Compare(s.size(), t.size()), slices.Compare(s.list(), t.list()))
}

// first returns the set of so many numbers, from 0 on.
func first(n int) set { return one<<n - one }

// parts returns all sets of some of these, in the order of compare.
func (s set) parts() []set {
	var parts []set
	for part := range s + 1 {
		if part.less(s) == none {
			parts = append(parts, part)
		}
	}
	slices.SortFunc(parts, set.compare)
	return parts
}

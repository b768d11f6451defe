package smell

import (
	"cmp"
	"math/bits"
	"slices"
)

// set is some of the places, of the hampers, or of the noses: each of them is a bit.
type set uint8

const (
	none set = iota
	one      // the place, the hamper, or the nose 0
)

// firsts returns the set of so many numbers, from 0 on.
func firsts(n int) set { return one<<n - one }

func (s set) with(n int) set { return s | one<<n }

func (s set) has(n int) bool { return s&(one<<n) != none }

func (s set) size() int { return bits.OnesCount8(uint8(s)) }

// list returns the numbers, ascending.
func (s set) list() []int {
	var list []int
	for n := range bits.Len8(uint8(s)) {
		if s.has(n) {
			list = append(list, n)
		}
	}
	return list
}

// compare puts fewer before more, and otherwise lists in lexicographic order.
func (s set) compare(other set) int {
	return cmp.Or(cmp.Compare(s.size(), other.size()), slices.Compare(s.list(), other.list()))
}

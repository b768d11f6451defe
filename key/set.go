package key

import (
	"cmp"
	"math/bits"
	"slices"
)

// set is some of the locks, of the keys, or of the tries: each of them is a bit.
type set uint8

const one set = 1 // the lock, the key, or the try 0

// setOf returns the set of these numbers.
func setOf(numbers ...int) set {
	var s set
	for _, n := range numbers {
		s = s.with(n)
	}
	return s
}

// firsts returns the set of so many numbers, from 0 on.
func firsts(n int) set { return one<<n - 1 }

func (s set) with(n int) set { return s | one<<n }

func (s set) has(n int) bool { return s&(one<<n) != 0 }

// list returns the numbers, ascending.
func (s set) list() []int {
	var list []int
	for n := range bits.Len8(uint8(s)) {
		if s.has(n) {
			list = append(list, n)
		}
	}
	return list
}

// compare puts fewer before more, and otherwise lists in lexicographic order.
func (s set) compare(other set) int {
	a, b := s.list(), other.list()
	return cmp.Or(cmp.Compare(len(a), len(b)), slices.Compare(a, b))
}

// parts returns all sets of some of these, in the order of compare.
func (s set) parts() []set {
	var parts []set
	for part := range s + 1 {
		if part&^s == 0 {
			parts = append(parts, part)
		}
	}
	slices.SortFunc(parts, set.compare)
	return parts
}

package ticket

import (
	"iter"
	"math/bits"
)

// set is a set of small whole numbers, each of which is a bit. Numbers of
// tickets are counted from the first one of the roll.
type set uint16

func one(n int) set { return 1 << n }

// span returns the numbers from the first one on that come before end.
func span(from, end int) set {
	if from >= end {
		return 0
	}
	return one(end) - one(from)
}

func (s set) has(n int) bool { return s&one(n) != 0 }

func (s set) union(t set) set { return s | t }

func (s set) less(t set) set { return s &^ t }

func (s set) size() int { return bits.OnesCount16(uint16(s)) }

func (s set) least() int { return bits.TrailingZeros16(uint16(s)) }

// all goes through the numbers, ascending.
func (s set) all() iter.Seq[int] {
	return func(yield func(int) bool) {
		for rest := s; rest != 0; rest &= rest - 1 {
			if !yield(rest.least()) {
				return
			}
		}
	}
}

// list returns the numbers, ascending, each of them greater by more.
func (s set) list(more int) []int {
	var list []int
	for n := range s.all() {
		list = append(list, n+more)
	}
	return list
}

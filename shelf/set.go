package shelf

import (
	"iter"
	"math/bits"
)

// set is some of the lanes, or the pieces that stand in a lane: each of them is a bit.
type set uint8

const (
	none set = iota
	one      // the lane 0, or the piece 0
)

func (s set) with(n int) set { return s | one<<n }

func (s set) has(n int) bool { return s&(one<<n) != none }

// after returns those that have greater numbers.
func (s set) after(n int) set { return s >> (n + 1) << (n + 1) }

// end returns the least number that is greater than all.
func (s set) end() int { return bits.Len8(uint8(s)) }

// all goes through the numbers, ascending.
func (s set) all() iter.Seq[int] {
	return func(yield func(int) bool) {
		for rest := s; rest != none; rest &= rest - 1 {
			if !yield(bits.TrailingZeros8(uint8(rest))) {
				return
			}
		}
	}
}

// pairs goes through all pairs of a number and a greater one.
func (s set) pairs() iter.Seq2[int, int] {
	return func(yield func(int, int) bool) {
		for i := range s.all() {
			for k := range s.after(i).all() {
				if !yield(i, k) {
					return
				}
			}
		}
	}
}

func (s set) list() []int {
	var list []int
	for n := range s.all() {
		list = append(list, n)
	}
	return list
}

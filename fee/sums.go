package fee

import (
	"iter"
	"math/bits"

	"gladstone/api"
)

// sums is a set of fees of one piece, each of which is a bit: no fee is above
// FeePenny for each day, which is less than 64.
type sums uint64

// mostFee is a fee that no piece exceeds: First, and a rate for each midnight.
const mostFee = api.FeePenny * api.FeeDays

func one(pennies int) sums { return 1 << pennies }

func (s sums) has(pennies int) bool { return s&one(pennies) != 0 }

func (s sums) size() int { return bits.OnesCount64(uint64(s)) }

func (s sums) larger(t sums) bool { return s.size() > t.size() }

// band returns the least and the greatest fee of a set that is not empty.
func (s sums) band() api.Band {
	return api.Band{Min: bits.TrailingZeros64(uint64(s)), Max: bits.Len64(uint64(s)) - 1}
}

// all goes through the fees, ascending.
func (s sums) all() iter.Seq[int] {
	return func(yield func(int) bool) {
		for rest := s; rest != 0; rest &= rest - 1 {
			if !yield(rest.band().Min) {
				return
			}
		}
	}
}

func (s sums) list() []int {
	var list []int
	for pennies := range s.all() {
		list = append(list, pennies)
	}
	return list
}

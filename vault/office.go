package vault

import (
	"iter"
	"math/bits"
)

// office is the pieces in the office: each of them is a bit.
type office uint8

const (
	empty office = iota
	first        // the piece 0
)

func (o office) has(piece int) bool { return o&(first<<piece) != empty }

func (o office) with(piece int) office { return o | first<<piece }

func (o office) without(piece int) office { return o &^ (first << piece) }

func (o office) size() int { return bits.OnesCount8(uint8(o)) }

func (o office) least() int { return bits.TrailingZeros8(uint8(o)) }

// all goes through the pieces, ascending.
func (o office) all() iter.Seq[int] {
	return func(yield func(int) bool) {
		for rest := o; rest != empty; rest &= rest - 1 {
			if !yield(rest.least()) {
				return
			}
		}
	}
}

// join returns the office after it was changed by each of the pieces.
func (o office) join(change func(office, int) office, pieces ...int) office {
	for _, piece := range pieces {
		o = change(o, piece)
	}
	return o
}

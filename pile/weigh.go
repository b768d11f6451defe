package pile

import (
	"slices"
	"sync"
	"sync/atomic"

	"gladstone/api"
)

// lookers is how many goroutines look at cases side by side.
const lookers = 4

// weigh returns the first ones of the fewest pieces that have to be weighed.
func (y yard) weigh(p pile) set {
	above := p.above(0) // nothing bears the lowest one
	found := none
sizes:
	for size := range above.size() + 1 {
		for _, part := range filter(above.parts(), func(s set) bool { return s.size() == size }) {
			if !y.doubtful(p, part) {
				found = part
				break sizes
			}
		}
	}
	return found
}

// doubtful returns whether it can still be in doubt whether the pile stands if
// these pieces are weighed.
func (y yard) doubtful(p pile, weighed set) bool {
	cases := y.cases(weighed)
	doubts := make([]bool, min(lookers, cases))
	var taken atomic.Int64
	var looking sync.WaitGroup
	for looker := range doubts {
		looking.Add(1)
		go func() {
			defer looking.Done()
			for n := int(taken.Add(1)); n <= cases; n = int(taken.Add(1)) {
				if y.told(weighed, n-1).standing(p) == api.Perhaps {
					doubts[looker] = true
					return
				}
			}
		}()
	}
	looking.Wait()
	return slices.Contains(doubts, true)
}

// cases returns how many lists of weights these pieces can have.
func (y yard) cases(weighed set) int {
	cases := 1
	for piece := range weighed.all() {
		cases *= y.weights(piece)
	}
	return cases
}

// weights returns how many weights the piece can have.
func (y yard) weights(piece int) int { return y.heavy[piece] - y.light[piece] + 1 }

// told returns the yard if these pieces are weighed, and have the list of weights with the number.
func (y yard) told(weighed set, number int) yard {
	for piece := range weighed.all() {
		weights := y.weights(piece)
		y.light[piece] += number % weights
		y.heavy[piece] = y.light[piece]
		number /= weights
	}
	return y
}

package vault

import (
	"slices"

	"gladstone/api"
)

// none stands for no piece, and no call.
const none = -1

// choice is the piece that is sent at each call; none if nothing is.
type choice [api.VaultCalls]int

// list returns the choice at so many calls.
func (c choice) list(calls int) []int { return slices.Clone(c[:calls:calls]) }

// run returns what the porter sends at the calls of the truth, and how many
// pieces are fetched.
func (v vault) run(truth []int, p porter) (sent choice, fetched int) {
	d := v.start
	for call, piece := range truth {
		sent[call] = none
		if d.in.has(piece) {
			if p.renews {
				d.renew(piece)
			}
			continue
		}
		if d.in.size() == v.Places {
			d.rest = truth[call+1 : len(truth) : len(truth)]
			sent[call] = p.send(d)
			d.send(sent[call])
		}
		d.put(piece)
		fetched++
	}
	return sent, fetched
}

package fee

import (
	"iter"
	"sync"

	"gladstone/api"
)

// tally is for each number of pennies how many lists of fees have it as their sum.
type tally [api.FeeStays*mostFee + 1]int

// with returns the tally of the lists that have a fee of one stay more.
func (t tally) with(fees sums) tally {
	var longer tally
	for pennies, lists := range t {
		if lists == 0 {
			continue
		}
		for fee := range fees.all() {
			longer[pennies+fee] += lists
		}
	}
	return longer
}

// of returns how many lists have the sum.
func (t tally) of(pennies int) int {
	if pennies < 0 || pennies >= len(t) {
		return 0
	}
	return t[pennies]
}

// bill is stays that are paid together, of which some have been given a fee.
type bill struct {
	fees  []sums  // those that each stay can have
	rests []tally // of the lists for the stays from each one on
	owed  int     // what the stays that have no fee yet must bring
}

// openBill returns the bill of stays for which so much was paid, or the first error.
func openBill(t api.Tariff, stays []api.Stay, paid int) (*bill, api.Errno) {
	work, e := open(t, checkStays(t, stays), checkPaid(paid))
	if e != api.OK {
		return nil, e
	}
	fees := work.look(stays)
	rests := make([]tally, len(fees)+1)
	rests[len(fees)][0] = 1
	for stay := len(fees) - 1; stay >= 0; stay-- {
		rests[stay] = rests[stay+1].with(fees[stay])
	}
	return &bill{fees, rests, paid}, api.OK
}

// openPaid is openBill, but for ErrEmpty if no list of fees has the sum that was paid.
func openPaid(t api.Tariff, stays []api.Stay, paid int) (*bill, api.Errno) {
	b, e := openBill(t, stays, paid)
	if e != api.OK {
		return nil, e
	}
	if b.ways() == 0 {
		return nil, api.ErrEmpty
	}
	return b, api.OK
}

// look returns the sums of each stay. The stays are looked at side by side.
func (t *tariff) look(stays []api.Stay) []sums {
	type part struct {
		stay int
		fees sums
	}
	parts := make(chan part, len(stays))
	var lookers sync.WaitGroup
	for i, s := range stays {
		lookers.Add(1)
		go func() {
			defer lookers.Done()
			parts <- part{i, t.sums(s)}
		}()
	}
	lookers.Wait()
	close(parts)
	fees := make([]sums, len(stays))
	for p := range parts {
		fees[p.stay] = p.fees
	}
	return fees
}

// totals returns all sums of lists of fees, ascending.
func (b *bill) totals() []int {
	var list []int
	for pennies, lists := range b.rests[0] {
		if lists > 0 {
			list = append(list, pennies)
		}
	}
	return list
}

// ways returns how many lists of fees have the sum that was paid.
func (b *bill) ways() int { return b.rests[0].of(b.owed) }

// lists goes through the lists of fees that have the sum that was paid, in lexicographic order.
func (b *bill) lists() iter.Seq[[]int] {
	return func(yield func([]int) bool) { b.complete(nil, yield) }
}

// complete goes through the lists that begin with this one, and returns whether to go on.
func (b *bill) complete(list []int, yield func([]int) bool) bool {
	stay := len(list)
	if stay == len(b.fees) {
		return yield(list)
	}
	for fee := range b.fees[stay].all() {
		if b.rests[stay+1].of(b.owed-fee) > 0 && !b.put(list, fee, yield) {
			return false
		}
	}
	return true
}

// put goes through the lists that begin with this one and the fee of one stay more.
func (b *bill) put(list []int, fee int, yield func([]int) bool) bool {
	b.owed -= fee
	defer b.off(fee)
	return b.complete(grow(list, fee), yield)
}

// off takes a stay off the bill again.
func (b *bill) off(fee int) { b.owed += fee }

// grow returns the list with more fees; lists that begin in the same way share no memory behind it.
func grow(list []int, fees ...int) []int { return append(list[:len(list):len(list)], fees...) }

// split returns the first list with the sum that was paid, of which there is one.
func (b *bill) split() []int {
	for list := range b.lists() {
		return list
	}
	return nil
}

// parts returns the least and the greatest fee of each stay in the lists with the sum that was paid.
func (b *bill) parts() []api.Band {
	found := make([]sums, len(b.fees))
	for list := range b.lists() {
		for stay, fee := range list {
			found[stay] |= one(fee)
		}
	}
	var bands []api.Band
	for _, fees := range found {
		bands = append(bands, fees.band())
	}
	return bands
}

package fee

import (
	"iter"
	"sync"

	"gladstone/api"
)

const (
	hoursPerDay = api.FeeHours / api.FeeDays
	lastHour    = api.FeeHours - 1
	lastDay     = api.FeeDays - 1
)

func dayOf(hour int) int { return hour / hoursPerDay }

// days is the rate of a kind on each day.
type days [api.FeeDays]int

// tariff is a tariff at work. The rates of all days are made when one of them
// is needed, by whichever goroutine comes first.
type tariff struct {
	api.Tariff
	once  sync.Once
	rates [api.FeeKinds]days
}

// open returns the tariff at work, or the first error: the tariff's own comes before the others.
func open(t api.Tariff, others ...error) (*tariff, api.Errno) {
	if e := code(firstOf(checkTariff(t), firstOf(others...))); e != api.OK {
		return nil, e
	}
	return &tariff{Tariff: t}, api.OK
}

// days returns the rates of the kind.
func (t *tariff) days(kind int) days {
	t.once.Do(t.fill)
	return t.rates[kind]
}

// fill makes the rates of all kinds and days: later ones replace those before.
func (t *tariff) fill() {
	for kind := range t.Kinds {
		rates := &t.rates[kind]
		for _, r := range t.Rates {
			for day := r.From; day < api.FeeDays; day++ {
				rates[day] = r.Pennies[kind]
			}
		}
		for _, day := range t.Free {
			rates[day] = 0
		}
	}
}

// fee returns the fee of a piece of the kind.
func (t *tariff) fee(kind int, c api.Term) int {
	rates, pennies := t.days(kind), t.First[kind]
	for day := dayOf(c.Left) + 1; day <= dayOf(c.Fetched); day++ {
		pennies += rates[day]
	}
	return pennies
}

// until returns the last hour at which a piece that is left at the hour can be
// fetched for what was paid, which is enough for the hour itself.
func (t *tariff) until(kind, left, paid int) int {
	hour := left
next:
	if later := hour + 1; later <= lastHour && t.fee(kind, api.Term{Left: left, Fetched: later}) <= paid {
		hour = later
		goto next
	}
	return hour
}

// cases goes through the cases of a stay.
func cases(s api.Stay) iter.Seq[api.Term] {
	return func(yield func(api.Term) bool) {
		for late := range s.Left.Max - s.Left.Min + 1 {
			left := s.Left.Min + late
			earliest := max(left, s.Fetched.Min)
			for late := range s.Fetched.Max - earliest + 1 {
				if !yield(api.Term{Left: left, Fetched: earliest + late}) {
					return
				}
			}
		}
	}
}

// sums returns the fees of all cases of the stay.
func (t *tariff) sums(s api.Stay) sums {
	if t.days(s.Kind) == (days{}) {
		return one(t.First[s.Kind]) // only this is owed, whatever the hours are
	}
	var found sums
	for c := range cases(s) {
		found |= one(t.fee(s.Kind, c))
	}
	return found
}

// verdict returns in how many cases of the stay the fee is what was paid.
func (t *tariff) verdict(s api.Stay, paid int) int {
	v := 0
cases:
	for c := range cases(s) {
		switch fits := t.fee(s.Kind, c) == paid; {
		case fits && v == api.NoWay, !fits && v == api.Always:
			v = api.Perhaps
			break cases
		case fits:
			v = api.Always
		default:
			v = api.NoWay
		}
	}
	return v
}

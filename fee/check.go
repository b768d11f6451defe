package fee

import (
	"errors"

	"gladstone/api"
)

// fault is what can be wrong with a number.
type fault int

const (
	amount   fault = iota // it is too small or too large
	unknown               // it is the number of nothing
	order                 // it comes too early or too late
	contrary              // it contradicts another one
	length                // so many elements are too few or too many
	limit                 // so many elements are too many
)

// misfit is the error of a number that may not be, with the least one that may.
type misfit struct {
	fault
	number, least int
}

func (x misfit) Error() string { return x.code().Error() }

func (x misfit) code() api.Errno {
	switch x.fault {
	case unknown:
		return api.ErrUnknown
	case order:
		return api.ErrOrder
	case contrary:
		return api.ErrContrary
	case length:
		if x.number < x.least {
			return api.ErrFew
		}
		fallthrough
	case limit:
		return api.ErrMany
	}
	return api.ErrAmount
}

// code returns the code of an error; OK if there is none.
func code(err error) api.Errno {
	var bad misfit
	if errors.As(err, &bad) {
		return bad.code()
	}
	return api.OK
}

// within returns an error unless the number is from the least to the most one.
func within(what fault, number, least, most int) error {
	if least <= number && number <= most {
		return nil
	}
	return misfit{what, number, least}
}

func firstOf(errs ...error) error {
	for _, err := range errs {
		if err != nil {
			return err
		}
	}
	return nil
}

func checkTariff(t api.Tariff) error {
	return firstOf(
		within(amount, t.Kinds, 1, api.FeeKinds),
		checkPennies(t.First, t.Kinds),
		checkRates(t.Rates, t.Kinds),
		checkFree(t.Free),
	)
}

func checkPennies(pennies []int, kinds int) error {
	if err := within(length, len(pennies), kinds, kinds); err != nil {
		return err
	}
	for _, n := range pennies {
		if err := within(amount, n, 0, api.FeePenny); err != nil {
			return err
		}
	}
	return nil
}

func checkRates(rates []api.Rate, kinds int) error {
	if err := within(length, len(rates), 1, api.FeeRates); err != nil {
		return err
	}
	earliest, latest := 0, 0
	for _, r := range rates {
		err := firstOf(
			checkDay(amount, r.From),
			within(order, r.From, earliest, latest),
			checkPennies(r.Pennies, kinds),
		)
		if err != nil {
			return err
		}
		earliest, latest = r.From+1, lastDay
	}
	return nil
}

func checkFree(days []int) error {
	earliest := 0
	for _, day := range days {
		err := firstOf(checkDay(unknown, day), within(order, day, earliest, lastDay))
		if err != nil {
			return err
		}
		earliest = day + 1
	}
	return nil
}

func checkStays(t api.Tariff, stays []api.Stay) error {
	if err := within(limit, len(stays), 0, api.FeeStays); err != nil {
		return err
	}
	for _, s := range stays {
		if err := checkStay(t, s); err != nil {
			return err
		}
	}
	return nil
}

func checkStay(t api.Tariff, s api.Stay) error {
	return firstOf(
		checkKind(t, s.Kind),
		checkHours(s.Left),
		checkHours(s.Fetched),
		within(contrary, s.Fetched.Max, s.Left.Min, lastHour),
	)
}

func checkHours(b api.Band) error {
	return firstOf(checkHour(b.Min), checkHour(b.Max), checkOrder(b.Min, b.Max))
}

func checkKind(t api.Tariff, kind int) error { return within(unknown, kind, 0, t.Kinds-1) }

func checkDay(what fault, day int) error { return within(what, day, 0, lastDay) }

func checkHour(hour int) error { return within(amount, hour, 0, lastHour) }

func checkOrder(hour, later int) error { return within(order, later, hour, lastHour) }

func checkPaid(paid int) error { return within(amount, paid, 0, api.FeePaid) }

func checkCarry(carry int) error { return within(amount, carry, 0, api.FeeCarry) }

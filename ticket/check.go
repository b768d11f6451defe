package ticket

import (
	"errors"

	"gladstone/api"
)

// invalid is the error of a roll, or of a part of it, that is not valid.
type invalid struct{ code api.Errno }

func (x invalid) Error() string { return x.code.Error() }

// code returns the code of an error; OK if there is none.
func code(err error) api.Errno {
	var bad invalid
	if errors.As(err, &bad) {
		return bad.code
	}
	return api.OK
}

func within(n, from, to int) bool { return from <= n && n <= to }

func checkRoll(r api.Roll) error {
	if !within(r.First, 0, api.TicketFirst) || !within(r.Hours, 1, api.TicketHours) || !within(r.Per, 1, api.TicketPer) {
		return invalid{api.ErrAmount}
	}
	if len(r.Seen) > api.TicketSeen {
		return invalid{api.ErrMany}
	}
	for _, s := range r.Seen {
		if err := checkSeen(s, r.Hours); err != nil {
			return err
		}
	}
	if err := checkHalves(r.Pieces, api.TicketPieces, r.Hours); err != nil {
		return err
	}
	return checkHalves(r.Stubs, api.TicketStubs, r.Hours)
}

func checkSeen(s api.Seen, hours int) error {
	if !within(s.Hour, 0, hours) {
		return invalid{api.ErrUnknown}
	}
	return checkNumbers(s.Next)
}

func checkHalves(list []api.Half, most, hours int) error {
	if len(list) > most {
		return invalid{api.ErrMany}
	}
	for _, x := range list {
		if err := checkHalf(x, hours); err != nil {
			return err
		}
	}
	return nil
}

func checkHalf(x api.Half, hours int) error {
	if err := checkNumbers(x.Number); err != nil {
		return err
	}
	if !within(x.Hour.Min, 0, hours-1) || !within(x.Hour.Max, 0, hours-1) {
		return invalid{api.ErrUnknown}
	}
	return checkOrder(x.Hour)
}

func checkNumbers(b api.Band) error {
	if !within(b.Min, 0, api.TicketNumber) || !within(b.Max, 0, api.TicketNumber) {
		return invalid{api.ErrAmount}
	}
	return checkOrder(b)
}

func checkOrder(b api.Band) error {
	if b.Min > b.Max {
		return invalid{api.ErrOrder}
	}
	return nil
}

// index is the number by which an argument names one of so many things.
type index struct{ number, count int }

// refuse returns the error of the roll, otherwise ErrUnknown unless all that is named is there.
func refuse(r api.Roll, named ...index) api.Errno {
	if e := Check(r); e != api.OK {
		return e
	}
	for _, x := range named {
		if !within(x.number, 0, x.count-1) {
			return api.ErrUnknown
		}
	}
	return api.OK
}

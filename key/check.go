package key

import "gladstone/api"

// fault is what is wrong with an argument that may not be.
type fault int

const (
	noNumber fault = iota
	noKey
	noLock
	twice
	crossed // a least number that is above the greatest one
	tooMany
	tooFew
)

func (f fault) code() api.Errno {
	switch f {
	case noKey:
		fallthrough // what is not there has one error, whatever it is
	case noLock:
		return api.ErrUnknown
	case twice:
		return api.ErrRepeat
	case crossed:
		return api.ErrOrder
	case tooMany:
		return api.ErrMany
	case tooFew:
		return api.ErrFew
	}
	return api.ErrAmount
}

// insist panics with the fault unless all is right.
func insist(right bool, otherwise fault) {
	if !right {
		panic(otherwise)
	}
}

func within(n, from, to int) bool { return from <= n && n <= to }

// demand is what is demanded of arguments, beside a ring. It panics with the first fault.
type demand func(given api.Ring)

// refusal returns the error of the first fault of a ring, or of other arguments.
func refusal(given api.Ring, demands ...demand) (e api.Errno) {
	defer func() {
		if x := recover(); x != nil {
			e = x.(fault).code()
		}
	}()
	checkRing(given)
	for _, check := range demands {
		check(given)
	}
	return api.OK
}

func checkRing(given api.Ring) {
	insist(within(given.Cuts, 1, api.KeyCuts), noNumber)
	insist(len(given.Keys) <= api.KeyKeys, tooMany)
	for _, k := range given.Keys {
		checkKey(k, given.Cuts)
	}
	insist(len(given.Locks) <= api.KeyLocks, tooMany)
	for _, bands := range given.Locks {
		checkLength(len(bands), given.Cuts)
		for _, band := range bands {
			checkBand(band, api.KeyDepth)
		}
	}
	insist(len(given.Tries) <= api.KeyTries, tooMany)
	for _, t := range given.Tries {
		checkTry(given, t)
	}
}

func checkKey(k api.Key, cuts int) {
	checkLength(len(k.Cuts), cuts)
	for _, depth := range k.Cuts {
		insist(within(depth, 0, api.KeyDepth), noNumber)
	}
	checkBand(k.Wear, api.KeyWear)
}

func checkLength(length, cuts int) {
	insist(length >= cuts, tooFew)
	insist(length <= cuts, tooMany)
}

func checkBand(band api.Band, most int) {
	insist(within(band.Min, 0, most) && within(band.Max, 0, most), noNumber)
	insist(band.Min <= band.Max, crossed)
}

func checkTry(given api.Ring, t api.Try) {
	isKey(t.Key)(given)
	isLock(t.Lock)(given)
}

func isKey(key int) demand {
	return func(given api.Ring) { insist(within(key, 0, len(given.Keys)-1), noKey) }
}

func isLock(lock int) demand {
	return func(given api.Ring) { insist(within(lock, 0, len(given.Locks)-1), noLock) }
}

func isWear(wear int) demand {
	return func(api.Ring) { insist(within(wear, 0, api.KeyWear), noNumber) }
}

func areLocks(locks []int) demand {
	return func(given api.Ring) {
		var before set
		for _, lock := range locks {
			isLock(lock)(given)
			insist(!before.has(lock), twice)
			before = before.with(lock)
		}
	}
}

func areTurns(turns []api.Turn) demand {
	return func(given api.Ring) {
		insist(len(turns) <= api.KeyTries, tooMany)
		for _, t := range turns {
			isKey(t.Key)(given)
		}
	}
}

func isNext(t api.Try) demand {
	return func(given api.Ring) {
		insist(len(given.Tries) < api.KeyTries, tooMany)
		checkTry(given, t)
	}
}

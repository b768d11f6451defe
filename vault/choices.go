package vault

import (
	"iter"

	"gladstone/api"
)

// tooMuch is what ends a choice that fetches more than the best ones.
type tooMuch struct{}

// choices goes through the best choices, in lexicographic order.
func (t tour) choices() iter.Seq[choice] {
	return func(yield func(choice) bool) {
		var made choice
		var extend func(at place, left int) bool
		extend = func(at place, left int) (more bool) {
			defer func() {
				switch x := recover().(type) {
				case nil:
				case tooMuch:
					more = true
				default:
					panic(x)
				}
			}()
			t.afford(at, left)
			if at.call == len(t.truth) {
				return yield(made)
			}
			for sent, next := range t.steps(at) {
				made[at.call] = sent
				if !extend(next, left-at.fetched(next)) {
					return false
				}
			}
			return true
		}
		extend(t.begin(), t.fewest(t.begin()))
	}
}

// afford panics if more pieces than are left have to be fetched from the place on.
func (t tour) afford(at place, left int) {
	if t.fewest(at) > left {
		panic(tooMuch{})
	}
}

// first returns the first of the best choices.
func (t tour) first() choice {
	for c := range t.choices() {
		return c
	}
	return choice{}
}

// sent returns whether the best choices send the piece at the call.
func (t tour) sent(call, piece int) int {
	some, all := false, true
choices:
	for c := range t.choices() {
		is := c[call] == piece
		some, all = some || is, all && is
		switch verdict(some, all) {
		case api.Perhaps: // no other choice changes that
			break choices
		}
	}
	return verdict(some, all)
}

// verdict returns the verdict on what is so in some of the choices, and in all.
func verdict(some, all bool) int {
	v := 0
	switch {
	case some:
		v = api.Always
		if all {
			break
		}
		fallthrough
	default:
		v |= api.NoWay // what is so in some, and not in others, is Perhaps, which is both
	}
	return v
}

package barrow

import (
	"iter"

	"gladstone/api"
)

// least keeps what has the least number; of several the first one that it is shown.
type least[T any] struct {
	of     func(T) int
	kept   T
	number int
	filled bool
}

func (l *least[T]) show(x T) {
	if n := l.of(x); !l.filled || n < l.number {
		l.kept, l.number, l.filled = x, n, true
	}
}

func each[T any](take func(T), all iter.Seq[T]) {
	for x := range all {
		take(x)
	}
}

// first returns the first of which it is so; ErrEmpty if it is of none.
func first[T any](all iter.Seq[T], is func(T) bool) (T, api.Errno) {
	for x := range all {
		if is(x) {
			return x, api.OK
		}
	}
	var none T
	return none, api.ErrEmpty
}

// join returns one list of what is in all lists.
func join[T any](lists ...[]T) []T {
	var all []T
	for _, list := range lists {
		all = append(all, list...)
	}
	return all
}

// numbers goes through the numbers from one to another one.
func numbers(from, to int) iter.Seq[int] {
	return func(yield func(int) bool) {
		for more := range to - from + 1 {
			if !yield(from + more) {
				return
			}
		}
	}
}

package key

import (
	"iter"
	"slices"

	"gladstone/api"
)

// first returns the first one in the list of which it is so; ErrEmpty if it is of none.
func first[T any](is func(T) bool, list ...T) (T, api.Errno) {
	for _, x := range list {
		if is(x) {
			return x, api.OK
		}
	}
	var none T
	return none, api.ErrEmpty
}

// least keeps what has the least number; of several the first one that it is shown.
type least[T any] struct {
	of     func(T) int
	kept   T
	number int
	filled bool
}

func (l *least[T]) show(x T) {
	if n := l.of(x); !l.filled || n < l.number {
		l.kept, l.number, l.filled = x, n, true
	}
}

func each[T any](take func(T), all iter.Seq[T]) {
	for x := range all {
		take(x)
	}
}

// without returns the list without what is at these places.
func without[T any](list []T, places set) []T {
	for _, place := range slices.Backward(places.list()) {
		list = append(list[:place:place], list[place+1:]...)
	}
	return list
}

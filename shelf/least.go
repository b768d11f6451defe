package shelf

import (
	"cmp"

	"gladstone/api"
)

// least keeps the first one of the least things that it is offered.
type least[T any] struct {
	of     func(T) int // what is to be least
	kept   T
	filled bool
}

func (l *least[T]) offer(x T) {
	if !l.filled || l.of(x) < l.of(l.kept) {
		l.kept, l.filled = x, true
	}
}

// found returns what is kept; ErrEmpty if nothing was offered.
func (l *least[T]) found() (T, api.Errno) {
	if !l.filled {
		return l.kept, api.ErrEmpty
	}
	return l.kept, api.OK
}

func each[T any](list []T, take func(T)) {
	for _, x := range list {
		take(x)
	}
}

// greatest returns the greatest one.
func greatest[T cmp.Ordered](first T, others ...T) T {
	for _, x := range others {
		if x > first {
			first = x
		}
	}
	return first
}

package pile

import "gladstone/api"

// best keeps the first one of those things that it is offered whose rank is least.
type best[T any] struct {
	rank   func(T) int
	kept   T
	filled bool
}

func (b *best[T]) offer(x T) {
	if !b.filled || b.rank(x) < b.rank(b.kept) {
		b.kept, b.filled = x, true
	}
}

// found returns what is kept; ErrEmpty if nothing was offered.
func (b *best[T]) found() (T, api.Errno) {
	if !b.filled {
		return b.kept, api.ErrEmpty
	}
	return b.kept, api.OK
}

func each[T any](list []T, take func(T)) {
	for _, x := range list {
		take(x)
	}
}

// filter returns those that are to be kept.
func filter[T any](list []T, keep func(T) bool) []T {
	var kept []T
	for _, x := range list {
		if keep(x) {
			kept = append(kept, x)
		}
	}
	return kept
}

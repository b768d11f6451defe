package vault

import (
	"cmp"

	"gladstone/api"
)

// bounds keeps the least and the greatest of the numbers that it is told.
type bounds[T cmp.Ordered] struct {
	least, most T
	filled      bool
}

func (b *bounds[T]) add(n T) {
	if !b.filled {
		*b = bounds[T]{n, n, true}
	}
	b.least, b.most = min(b.least, n), max(b.most, n)
}

// join adds all that the other one was told.
func (b *bounds[T]) join(other bounds[T]) {
	if other.filled {
		each(b.add, other.least, other.most)
	}
}

func each[T any](take func(T), list ...T) {
	for _, x := range list {
		take(x)
	}
}

func band(b bounds[int]) api.Band { return api.Band{Min: b.least, Max: b.most} }

func width(b bounds[int]) int { return b.most - b.least }

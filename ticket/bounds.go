package ticket

import (
	"cmp"

	"gladstone/api"
)

// bounds keeps the least and the greatest of the values that it takes.
type bounds[T cmp.Ordered] struct {
	least, greatest T
	taken           bool
}

func (b *bounds[T]) take(x T) {
	if !b.taken || x < b.least {
		b.least = x
	}
	if !b.taken || x > b.greatest {
		b.greatest = x
	}
	b.taken = true
}

// band returns the band from the least to the greatest number of the set, both greater by more.
func band(s set, more int) api.Band {
	var b bounds[int]
	each(s.list(more), b.take)
	return api.Band{Min: b.least, Max: b.greatest}
}

func each(list []int, take func(int)) {
	for _, n := range list {
		take(n)
	}
}

// least returns the least of the numbers.
func least(first int, others ...int) int {
	for _, n := range others {
		if n < first {
			first = n
		}
	}
	return first
}

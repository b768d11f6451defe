package smell

import (
	"cmp"

	"gladstone/api"
)

// bounds is the least and the greatest one of all that it was shown.
type bounds[T cmp.Ordered] struct {
	least, most T
	filled      bool
}

func (b *bounds[T]) show(x T) {
	if !b.filled {
		*b = bounds[T]{x, x, true}
	}
	b.least, b.most = min(b.least, x), max(b.most, x)
}

// ends shows both bounds, if there are any.
func (b bounds[T]) ends(show func(T)) {
	if b.filled {
		show(b.least)
		show(b.most)
	}
}

// band returns the bounds as a band; ErrEmpty if nothing was shown.
func band(b bounds[int]) (api.Band, api.Errno) {
	if !b.filled {
		return api.Band{}, api.ErrEmpty
	}
	return api.Band{Min: b.least, Max: b.most}, api.OK
}

// least returns the least one of these; of several the first one.
func least[T any](compare func(a, b T) int, first T, others ...T) T {
	for _, x := range others {
		if compare(x, first) < 0 {
			first = x
		}
	}
	return first
}

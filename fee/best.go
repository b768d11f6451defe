package fee

// best keeps the first one of the best things that it is offered.
type best[T any] struct {
	better func(a, b T) bool
	kept   T
	filled bool
}

func (b *best[T]) offer(x T) {
	if !b.filled || b.better(x, b.kept) {
		b.kept, b.filled = x, true
	}
}

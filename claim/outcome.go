package claim

import (
	"iter"
	"maps"
	"slices"
	"sync"

	"gladstone/api"
)

// best keeps the best ones of those that it is shown.
type best[T interface{ worth() gain }] struct {
	gain gain
	kept []T
}

func (b *best[T]) show(x T) {
	g := x.worth()
	if len(b.kept) == 0 || g.better(b.gain) {
		b.gain, b.kept = g, nil
	}
	if g == b.gain {
		b.kept = append(b.kept, x)
	}
}

func each[T any](all iter.Seq[T], take func(T)) {
	for x := range all {
		take(x)
	}
}

// book is where assignments are written down, by what they give.
type book struct {
	sync.Mutex
	found map[gain][]assignment
}

func (b *book) write(d draft) {
	b.Lock()
	defer b.Unlock()
	b.found[d.gain] = append(b.found[d.gain], d.assignment)
}

// outcome is the best assignments, in lexicographic order, and what each of them gives.
type outcome struct {
	gain
	all []assignment
}

// outcome returns the best assignments. Those in which the first claimant has
// something else are looked at side by side.
func (c claims) outcome() outcome {
	b := book{found: map[gain][]assignment{}}
	var lookers sync.WaitGroup
	for begun := range c.drafts(blank(), min(1, len(c.Told))) {
		lookers.Add(1)
		go func() {
			defer lookers.Done()
			each(c.bestFrom(begun), b.write)
		}()
	}
	lookers.Wait()
	var top best[gain]
	each(maps.Keys(b.found), top.show)
	all := b.found[top.gain]
	slices.SortFunc(all, assignment.compare)
	return outcome{top.gain, all}
}

// bestFrom goes through those assignments that go on from this one, and of which
// none is better than the other ones.
func (c claims) bestFrom(begun draft) iter.Seq[draft] {
	var most best[draft]
assignments:
	for d := range c.drafts(begun, len(c.Told)) {
		for claimant, who := range c.persons {
			if d.assignment[claimant] == nothing && who.fitting().less(d.given) != none {
				continue assignments // with a piece that nobody has for this claimant it is better
			}
		}
		most.show(d)
	}
	return slices.Values(most.kept)
}

// times returns in how many of the best assignments the claimant has the piece, or nothing.
func (o outcome) times(claimant, piece int) int {
	n := 0
	for _, a := range o.all {
		if a[claimant] == piece {
			n++
		}
	}
	return n
}

// verdict returns whether the claimant has the piece.
func (o outcome) verdict(claimant, piece int) int {
	v := 0
	switch n := o.times(claimant, piece); {
	case n > 0:
		v = api.Always
		if n == len(o.all) {
			break
		}
		fallthrough
	default:
		v |= api.NoWay // what is so in some, and not in others, is Perhaps, which is both
	}
	return v
}

// sure returns which one of so many pieces the claimant always has, or nothing.
func (o outcome) sure(claimant, pieces int) int {
	for piece := range pieces {
		if o.verdict(claimant, piece) == api.Always {
			return piece
		}
	}
	return nothing
}

// cheats returns those of so many claimants who never have a piece.
func (o outcome) cheats(claimants int) set {
	cheats := none
	for claimant := range claimants {
		if o.times(claimant, nothing) == len(o.all) {
			cheats = cheats.with(claimant)
		}
	}
	return cheats
}

// left returns those of so many pieces that nobody ever has.
func (o outcome) left(pieces int) set {
	taken := none
	for _, a := range o.all {
		for _, piece := range a {
			if piece != nothing {
				taken = taken.with(piece)
			}
		}
	}
	return first(pieces).less(taken)
}

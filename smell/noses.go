package smell

import "gladstone/api"

// spot is a place, and an hour at which it was sniffed there.
type spot struct{ place, hour int }

func (s spot) at() spot { return s }

// nose is what was told of a spot: a whiff, or clean air.
type nose interface{ at() spot }

type (
	// whiff is a nose that smelled something.
	whiff struct{ spot }

	// clean is a nose that did not.
	clean struct{ spot }
)

func told(n api.Nose) nose {
	s := spot{n.Place, n.Hour}
	if n.Smelled {
		return whiff{s}
	}
	return clean{s}
}

// agrees returns whether it smells like this if the smell comes at these hours.
func (h hours) agrees(n nose) bool {
	_, smelled := n.(whiff)
	return h.smells(n.at()) == smelled
}

// misfit ends a truth that does not fit.
type misfit struct{}

// fits returns whether a truth fits in which the smell comes at these hours.
func (m smell) fits(h hours) (fits bool) {
	defer func() { fits = recover() == nil }()
	for _, n := range m.noses {
		if !h.agrees(n) {
			panic(misfit{})
		}
	}
	return true
}

// misfits returns the noses that are wrong if the smell comes at these hours.
func (m smell) misfits(h hours) set {
	wrong := none
	for i, n := range m.noses {
		if !h.agrees(n) {
			wrong = wrong.with(i)
		}
	}
	return wrong
}

// wrong returns the fewest noses without which some truth fits: no truth fits
// unless all noses that are wrong in it are left out.
func (m smell) wrong() set {
	wrong := firsts(len(m.noses))
truths:
	for hamper := range m.Hampers {
		for _, h := range m.truths(hamper) {
			wrong = least(set.compare, wrong, m.misfits(h))
			if wrong == none {
				break truths
			}
		}
	}
	return wrong
}

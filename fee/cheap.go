package fee

import "gladstone/api"

// plan is a list of terms: the first one, the hour at which the next one begins
// (if it is not the last), and the pennies and the number of all.
type plan struct {
	first          api.Term
	again          int
	pennies, terms int
}

func (p plan) cheaper(q plan) bool {
	if p.pennies != q.pennies {
		return p.pennies < q.pennies
	}
	return p.terms < q.terms
}

// plans is what was found: the best plan between two hours.
type plans map[api.Term]plan

// find returns the best plan between the hours: the first one of the best that
// each gives, unless it was found before.
func (p plans) find(whole api.Term, each func(whole api.Term, take func(plan))) plan {
	if found, ok := p[whole]; ok {
		return found
	}
	b := best[plan]{better: plan.cheaper}
	each(whole, b.offer)
	p[whole] = b.kept
	return b.kept
}

// porter leaves a piece of a kind, and can carry it for some hours in between.
type porter struct {
	*tariff
	kind, carry int
	here        plans // those that begin with the piece being left
	away        plans // those that begin with the piece being taken out
}

func (t *tariff) porter(kind, carry int) *porter {
	return &porter{t, kind, carry, plans{}, plans{}}
}

// leave returns the best plan for a piece that is left at the first hour.
func (p *porter) leave(whole api.Term) plan { return p.here.find(whole, p.eachTerm) }

// takeOut returns the best plan for a piece that is taken out at the first hour.
func (p *porter) takeOut(whole api.Term) plan { return p.away.find(whole, p.eachReturn) }

// eachTerm goes through the best plan for each first term. Those of several
// terms are in lexicographic order; the whole as one term is like none of them.
func (p *porter) eachTerm(whole api.Term, take func(plan)) {
	take(plan{first: whole, pennies: p.fee(p.kind, whole), terms: 1})
	if p.carry == 0 {
		return
	}
	for hours := range whole.Fetched - whole.Left {
		first := api.Term{Left: whole.Left, Fetched: whole.Left + hours}
		rest := p.takeOut(api.Term{Left: first.Fetched, Fetched: whole.Fetched})
		take(plan{first, rest.first.Left, p.fee(p.kind, first) + rest.pennies, 1 + rest.terms})
	}
}

// eachReturn goes through the best plan for each hour at which the piece is left
// again. This is not the hour at which it was taken out: the two terms in one
// cost no more.
func (p *porter) eachReturn(whole api.Term, take func(plan)) {
	for hours := range min(p.carry, whole.Fetched-whole.Left) {
		take(p.leave(api.Term{Left: whole.Left + 1 + hours, Fetched: whole.Fetched}))
	}
}

// terms returns the terms of the best plan.
func (p *porter) terms(whole api.Term) []api.Term {
	next := p.leave(whole)
	list := []api.Term{next.first}
	for next.first != whole {
		whole.Left = next.again
		next = p.leave(whole)
		list = append(list, next.first)
	}
	return list
}

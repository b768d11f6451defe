package fee

import "gladstone/api"

// question is what is asked about a stay: one of the hours of its case.
type question interface{ answer(c api.Term) int }

type (
	whenLeft    struct{}
	whenFetched struct{}
)

func (whenLeft) answer(c api.Term) int { return c.Left }

func (whenFetched) answer(c api.Term) int { return c.Fetched }

// number returns the number that stands for the question.
func number(q question) int {
	switch q.(type) {
	case whenFetched:
		return 1
	}
	return 0
}

// page is the sums that there still can be after each answer; none, if this hour cannot be the answer.
type page [api.FeeHours]sums

// page returns the page of the question about the stay.
func (t *tariff) page(s api.Stay, q question) page {
	var p page
	for c := range cases(s) {
		p[q.answer(c)] |= one(t.fee(s.Kind, c))
	}
	return p
}

// band returns the first and the last hour after which the fee can be what was paid, and whether there is one.
func (p page) band(paid int) (hours api.Band, is bool) {
	for hour, left := range p {
		if !left.has(paid) {
			continue
		}
		if !is {
			hours.Min = hour
		}
		hours.Max, is = hour, true
	}
	return hours, is
}

// most returns how many sums there still can be after the answer that tells least.
func (p page) most() int {
	b := best[sums]{better: sums.larger}
	for _, left := range p {
		b.offer(left)
	}
	return b.kept.size()
}

// asked is a question, and how many sums there still can be, at most, when it is answered.
type asked struct {
	question
	most int
}

func (a asked) wiser(b asked) bool {
	if a.most != b.most {
		return a.most < b.most
	}
	_, is := a.question.(whenLeft)
	return is
}

// ask returns the question that should be asked about the stay.
func (t *tariff) ask(s api.Stay) asked {
	b := best[asked]{better: asked.wiser}
	for _, q := range []question{whenLeft{}, whenFetched{}} {
		b.offer(asked{q, t.page(s, q).most()})
	}
	return b.kept
}

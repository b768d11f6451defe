package shelf

import "gladstone/api"

// question is a piece of which it is asked when it is fetched, and the worst
// of the best plan after the answer that helps least.
type question struct{ piece, worst int }

func (q question) most() int { return q.worst }

// question returns the question that should be asked; ErrEmpty if there is no
// full plan, or none helps.
func (s shelf) question() (question, api.Errno) {
	plans := s.plans()
	if len(plans) == 0 {
		return question{}, api.ErrEmpty
	}
	kept := least[question]{of: question.most}
	for piece := range s.Bags {
		kept.offer(question{piece, s.answered(piece)})
	}
	asked, e := kept.found()
	if e != api.OK || asked.worst >= first(plans, tried.most).worst {
		return question{}, api.ErrEmpty
	}
	return asked, api.OK
}

// answered returns the greatest worst of the best plan, whatever the answer of the piece is.
func (s shelf) answered(piece int) int {
	out := s.Bags[piece].Out
	var worsts []int
	for later := range out.Max - out.Min + 1 {
		plans := s.told(piece, out.Min+later).plans()
		worsts = append(worsts, first(plans, tried.most).worst)
	}
	return greatest(0, worsts...)
}

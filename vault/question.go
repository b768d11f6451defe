package vault

import "gladstone/api"

// question is a call of which it is asked which piece is asked for, and the
// width after the answer that helps least.
type question struct{ call, width int }

// question returns the question that should be asked; ErrEmpty if none helps.
func (v vault) question() (question, api.Errno) {
	told := v.tell(v.fetches(best()))
	asked := question{none, width(told.all)}
	for call, list := range v.Calls {
		if len(list) < 2 {
			continue
		}
		var widths bounds[int]
		for _, piece := range list {
			widths.add(width(told.of[call][piece]))
		}
		if widths.most < asked.width {
			asked = question{call, widths.most}
		}
	}
	if asked.call == none {
		return question{}, api.ErrEmpty
	}
	return asked, api.OK
}

package vault

import (
	"slices"

	"gladstone/api"
)

// rule says which piece of those in the office is sent.
type rule interface {
	sends(d desk) int
}

type (
	low   struct{}
	old   struct{}
	stale struct{ old } // a piece that is asked for is as new as one that comes
	late  struct{}
)

func (low) sends(d desk) int { return d.in.least() }

func (old) sends(d desk) int { return d.came.pieces[0] }

func (late) sends(d desk) int {
	sent, last := none, none
	for piece := range d.in.all() {
		if next := d.next(piece); next > last {
			sent, last = piece, next
		}
	}
	return sent
}

// next returns how many calls come before the next one for the piece: all, if
// it is not asked for any more.
func (d desk) next(piece int) int {
	if before := slices.Index(d.rest, piece); before >= 0 {
		return before
	}
	return len(d.rest)
}

// rules returns all rules, by their numbers.
func rules() []rule {
	return []rule{api.RuleLow: low{}, api.RuleOld: old{}, api.RuleStale: stale{}, api.RuleLate: late{}}
}

// best returns the rule that fetches as few pieces as the best choices.
func best() rule { return late{} }

// find returns the rule with the number; ErrKind if there is none.
func find(number int) (rule, api.Errno) {
	all := rules()
	if !within(number, 0, len(all)-1) {
		return nil, api.ErrKind
	}
	return all[number], api.OK
}

// foresees returns whether the rule knows what comes.
func foresees(r rule) bool {
	switch r.(type) {
	case late:
		return true
	}
	return false
}

// porter does what a rule says.
type porter struct {
	send   func(desk) int // which piece is sent
	renews bool           // whether a piece that is asked for counts as one that comes
}

func porterOf(r rule) porter {
	_, renews := r.(stale)
	return porter{r.sends, renews}
}

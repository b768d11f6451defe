package ticket

import (
	"sync"

	"gladstone/api"
)

// page is the answers of a history.
type page struct {
	history
	answers set
}

// gather returns the answers of all histories that have any, or of as many as
// are needed. Histories that differ in how many tickets are torn in the first
// hour are looked at side by side.
func gather(r api.Roll, w want) map[history]set {
	parts := make(chan []page, r.Per+1)
	var lookers sync.WaitGroup
	for torn := range r.Per + 1 {
		lookers.Add(1)
		go func() {
			defer lookers.Done()
			parts <- look(r, w, torn)
		}()
	}
	lookers.Wait()
	close(parts)
	answers := map[history]set{}
	for {
		part, more := <-parts
		if !more {
			return answers
		}
		for _, p := range part {
			answers[p.history] = p.answers
		}
	}
}

// look returns the pages of the histories in whose first hour so many tickets are torn.
func look(r api.Roll, w want, torn int) []page {
	work := roll{r, memory{}}
	var pages []page
	var found set
histories:
	for h := range work.histories(torn) {
		if h == still(r.First) && len(work.Pieces) > 0 {
			continue // no piece has a ticket if nothing is torn
		}
		answers := w.answers(work.desk(h))
		if answers == 0 {
			continue
		}
		pages = append(pages, page{h, answers})
		found = found.union(answers)
		if satisfied(w, found) {
			break histories
		}
	}
	return pages
}

// ask returns the answers of all histories; ErrEmpty if there are none.
func ask(r api.Roll, w want) (set, api.Errno) {
	join := set.union
	var found set
	for _, answers := range gather(r, w) {
		found = join(found, answers)
	}
	if found == 0 {
		return 0, api.ErrEmpty
	}
	return found, api.OK
}

// can returns whether there is a truth.
func can(r api.Roll) bool { return len(gather(r, earliest{})) > 0 }

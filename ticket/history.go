package ticket

import (
	"iter"
	"slices"

	"gladstone/api"
)

// history is the number that is next on the roll at the beginning of each
// hour, and at the end. A roll of fewer hours repeats the number at its end, as
// if nothing were torn afterwards.
type history [api.TicketHours + 1]int

// still returns the history in which nothing is torn.
func still(first int) history {
	var h history
	for i := range h {
		h[i] = first
	}
	return h
}

// tear returns the history with more tickets torn in an hour.
func (h history) tear(hour, more int) history {
	for i := hour + 1; i < len(h); i++ {
		h[i] += more
	}
	return h
}

// since returns how many tickets are torn before the hour.
func (h history) since(hour int) int { return h[hour] - h[0] }

// fitting returns the tickets that the half fits. As hours follow one another,
// so do these tickets.
func (h history) fitting(x api.Half) set {
	from := max(x.Number.Min, h[x.Hour.Min])
	end := least(x.Number.Max+1, h[x.Hour.Max+1])
	return span(from-h[0], end-h[0])
}

// torn returns the tickets that are torn in the hour.
func (h history) torn(hour int) set { return span(h.since(hour), h.since(hour+1)) }

// roll is a roll at work.
type roll struct {
	api.Roll
	known memory
}

// memory holds for lists of what pieces can have whether all can have different numbers.
type memory map[[api.TicketPieces]set]bool

// agrees returns whether a history fits all that was seen at the hour.
func (r roll) agrees(h history, hour int) bool {
	for _, s := range r.Seen {
		if s.Hour == hour && !within(h[hour], s.Next.Min, s.Next.Max) {
			return false
		}
	}
	return true
}

// histories goes through the histories that agree with what was seen, and in
// whose first hour so many tickets are torn, in lexicographic order.
func (r roll) histories(torn int) iter.Seq[history] {
	return func(yield func(history) bool) {
		var extend func(h history, hour int) bool
		extend = func(h history, hour int) bool {
			if !r.agrees(h, hour) {
				return true
			}
			if hour == r.Hours {
				return yield(h)
			}
			for more := range r.Per + 1 {
				if !extend(h.tear(hour, more), hour+1) {
					return false
				}
			}
			return true
		}
		if start := still(r.First); r.agrees(start, 0) {
			extend(start.tear(0, torn), 1)
		}
	}
}

// compare compares histories in lexicographic order.
func compare(a, b history) int { return slices.Compare(a[:], b[:]) }

package smell

import (
	"cmp"
	"slices"
	"sync"

	"gladstone/api"
)

// suspicion is all truths that fit of a hamper and an hour: the first one, and the
// hours at which the smell comes to each place, where it does.
type suspicion struct {
	truth
	comes [api.SmellPlaces]bounds[int]
}

func (s suspicion) compare(other suspicion) int {
	return cmp.Or(cmp.Compare(s.hamper, other.hamper), cmp.Compare(s.hour, other.hour))
}

func (s *suspicion) see(h hours) {
	for place := range h {
		h.arrive(place, s.comes[place].show)
	}
}

// agrees returns whether some of the truths is as the nose says.
func (s suspicion) agrees(n nose) bool {
	comes, hour := s.comes[n.at().place], n.at().hour
	switch n.(type) {
	case whiff:
		return comes.filled && comes.least <= hour
	default:
		return !comes.filled || comes.most > hour
	}
}

// suspicions is all suspicions, in the order of truths.
type suspicions []suspicion

// suspicions returns all suspicions. Hampers are looked at side by side.
func (m smell) suspicions() suspicions {
	found := make(chan suspicions, len(m.Hampers))
	var lookers sync.WaitGroup
	for hamper := range m.Hampers {
		lookers.Add(1)
		go func() {
			defer lookers.Done()
			found <- m.suspicionsOf(hamper)
		}()
	}
	lookers.Wait()
	close(found)
	var all suspicions
	for some := range found {
		all = append(all, some...)
	}
	slices.SortFunc(all, suspicion.compare)
	return all
}

// suspicionsOf returns the suspicions of the hamper.
func (m smell) suspicionsOf(hamper int) suspicions {
	var all suspicions
	for t, h := range m.truths(hamper) {
		if !m.fits(h) {
			continue
		}
		if len(all) == 0 || all[len(all)-1].hour != t.hour {
			all = append(all, suspicion{truth: t})
		}
		all[len(all)-1].see(h)
	}
	return all
}

func (all suspicions) hampers() set {
	hampers := none
	for _, s := range all {
		hampers = hampers.with(s.hamper)
	}
	return hampers
}

// since returns the hours of suspicions of the hamper.
func (all suspicions) since(hamper int) bounds[int] {
	var b bounds[int]
	for _, s := range all {
		if s.hamper == hamper {
			b.show(s.hour)
		}
	}
	return b
}

// comes returns the hours at which the smell comes to the place, where it does.
func (all suspicions) comes(place int) bounds[int] {
	var b bounds[int]
	for _, s := range all {
		s.comes[place].ends(b.show)
	}
	return b
}

// left returns how many suspicions are left if the nose says this.
func (all suspicions) left(n nose) int {
	left := 0
	for _, s := range all {
		if s.agrees(n) {
			left++
		}
	}
	return left
}

// verdict returns whether it smells there.
func (all suspicions) verdict(s spot) int {
	v := 0
	switch {
	case all.left(whiff{s}) > 0:
		v = api.Always
		if all.left(clean{s}) == 0 {
			break
		}
		fallthrough
	default:
		v |= api.NoWay // what is so in some, and not in others, is Perhaps, which is both
	}
	return v
}

// surely returns those of so many places at which it always smells at the hour.
func (all suspicions) surely(places, hour int) set {
	sure := none
	for place := range places {
		if all.verdict(spot{place, hour}) == api.Always {
			sure = sure.with(place)
		}
	}
	return sure
}

// safe returns the last hour before it can smell at the place.
func (all suspicions) safe(place int) int {
	for hour := range api.SmellHour + 1 {
		if all.verdict(spot{place, hour}) != api.NoWay {
			return hour - 1
		}
	}
	return api.SmellHour
}

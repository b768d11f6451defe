package smell

import (
	"slices"

	"gladstone/api"
)

// smell is a smell at work.
type smell struct {
	api.Smell
	noses []nose
}

// open returns the smell at work, or the first error of it and of other arguments.
func open(given api.Smell, demands ...demand) (smell, api.Errno) {
	if e := refusal(given, demands...); e != api.OK {
		return smell{}, e
	}
	return begin(given), api.OK
}

// suspect returns all suspicions, or the first error of open; ErrEmpty if no truth fits.
func suspect(given api.Smell, demands ...demand) (suspicions, api.Errno) {
	work, e := open(given, demands...)
	if e != api.OK {
		return nil, e
	}
	found := work.suspicions()
	if len(found) == 0 {
		return nil, api.ErrEmpty
	}
	return found, api.OK
}

// begin returns a valid smell at work.
func begin(given api.Smell) smell {
	work := smell{Smell: given}
	for _, n := range given.Noses {
		work.noses = append(work.noses, told(n))
	}
	return work
}

// adding returns a new smell with one nose more.
func (m smell) adding(n api.Nose) api.Smell {
	added := api.Smell{Places: m.Places}
	added.Doors, added.Hampers = slices.Clone(m.Doors), slices.Clone(m.Hampers)
	noses := len(m.Noses)
	added.Noses = append(m.Noses[:noses:noses], n) // new memory, as there is no room behind it
	return added
}

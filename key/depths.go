package key

import (
	"iter"

	"gladstone/api"
)

// depths is the depths of a key's cuts.
type depths [api.KeyCuts]int

// depths returns the depths of the key when it was new.
func (r ring) depths(key int) depths {
	var d depths
	copy(d[:], r.Keys[key].Cuts)
	return d
}

// worn returns the depths that are left if the cuts are worn by the number.
func (d depths) worn(wear int) depths {
	for cut := range d {
		d[cut] = max(0, d[cut]-wear)
	}
	return d
}

// list returns the depths of so many cuts.
func (d depths) list(cuts int) []int {
	list := make([]int, cuts)
	copy(list, d[:])
	return list
}

// newKeys goes through the depths that a new key can have, in lexicographic order.
func (r ring) newKeys() iter.Seq[depths] {
	return func(yield func(depths) bool) {
		var d depths
		var cut int
	next:
		if !yield(d) {
			return
		}
		cut = r.Cuts
	turn:
		cut--
		if cut < 0 {
			return
		}
		if d[cut] == api.KeyDepth {
			d[cut] = 0
			goto turn
		}
		d[cut]++
		goto next
	}
}

// master returns the new key that opens all locks for longest.
func (r ring) master() least[depths] {
	best := least[depths]{of: r.lacking}
	each(best.show, r.newKeys())
	return best
}

// lacking returns by how many of the numbers up to KeyWear a key may not be worn,
// if it is to open all locks until then.
func (r ring) lacking(d depths) int {
	wear := 0
	for wear <= api.KeyWear && r.openedBy(d.worn(wear)) == firsts(len(r.Locks)) {
		wear++
	}
	return api.KeyWear + 1 - wear
}

package pile_test

import (
	"fmt"
	"maps"
	"math"
	"math/rand/v2"
	"reflect"
	"slices"
	"strings"
	"sync"
	"testing"

	"gladstone/api"
	"gladstone/pile"
)

// args are arguments for all functions.
type args struct {
	y    api.Yard
	pile ints
	p    api.Parcel
}

// ordinary returns arguments of which none is wrong.
func ordinary() args { return args{yardY(), ints{0, 1, 2}, parcel(1, 1, 1, 1)} }

// results returns what each function says, by its name. (A nil list is written as an empty one is.)
func (a args) results() map[string]string {
	return map[string]string{
		"Check":     fmt.Sprint(pile.Check(a.y)),
		"CheckPile": fmt.Sprint(pile.CheckPile(a.y, a.pile)),
		"Loads":     fmt.Sprint(pile.Loads(a.y, a.pile)),
		"Crushed":   fmt.Sprint(pile.Crushed(a.y, a.pile)),
		"Stands":    fmt.Sprint(pile.Stands(a.y, a.pile)),
		"Spare":     fmt.Sprint(pile.Spare(a.y, a.pile)),
		"On":        fmt.Sprint(pile.On(a.y, a.pile)),
		"Weigh":     fmt.Sprint(pile.Weigh(a.y, a.pile)),
		"Mend":      fmt.Sprint(pile.Mend(a.y, a.pile)),
		"Count":     fmt.Sprint(pile.Count(a.y)),
		"Order":     fmt.Sprint(pile.Order(a.y, a.pile)),
		"Most":      fmt.Sprint(pile.Most(a.y)),
		"Fewest":    fmt.Sprint(pile.Fewest(a.y)),
		"Add":       fmt.Sprint(pile.Add(a.y, a.p)),
	}
}

// refusals returns what each function says with the error: all other results are zero values (R3).
func refusals(e api.Errno) map[string]string {
	none := ints{}
	return map[string]string{
		"Check":     fmt.Sprint(e),
		"CheckPile": fmt.Sprint(e),
		"Loads":     fmt.Sprint(none, e),
		"Crushed":   fmt.Sprint(none, e),
		"Stands":    fmt.Sprint(0, e),
		"Spare":     fmt.Sprint(api.Band{}, e),
		"On":        fmt.Sprint(none, e),
		"Weigh":     fmt.Sprint(none, e),
		"Mend":      fmt.Sprint(0, none, e),
		"Count":     fmt.Sprint(0, e),
		"Order":     fmt.Sprint(none, e),
		"Most":      fmt.Sprint(none, e),
		"Fewest":    fmt.Sprint(none, e),
		"Add":       fmt.Sprint(api.Yard{}, e),
	}
}

// names returns the names of all functions.
func names() []string { return slices.Sorted(maps.Keys(refusals(api.OK))) }

// ofPiles are the functions that return the error of a pile.
func ofPiles() []string {
	return []string{"CheckPile", "Loads", "Crushed", "Stands", "Spare", "On", "Weigh", "Mend", "Order"}
}

// refused reports each of the functions that does not refuse the arguments with the error.
func refused(t *testing.T, what string, a args, e api.Errno, functions ...string) {
	t.Helper()
	got, wanted := a.results(), refusals(e)
	for _, name := range functions {
		if got[name] != wanted[name] {
			t.Errorf("%s: %s: %s; want %s", what, name, got[name], wanted[name])
		}
	}
}

// says reports results that are not the wanted ones; both are written down by fmt.Sprint.
func says(t *testing.T, what, got string, wanted ...any) {
	t.Helper()
	if text := fmt.Sprint(wanted...); got != text {
		t.Errorf("%s: %s; want %s", what, got, text)
	}
}

// P4.1: the first error of a yard, which all functions return first (R1, R3).
func TestCheck(t *testing.T) {
	six := make([]api.Parcel, 6)
	last := func(p api.Parcel) func(y *api.Yard) { return func(y *api.Yard) { y.Parcels[3] = p } }
	tests := []struct {
		what   string
		change func(y *api.Yard)
		want   api.Errno
	}{
		{"Y", func(y *api.Yard) {}, api.OK},
		{"Z", func(y *api.Yard) { *y = yardZ() }, api.OK},
		{"nothing", func(y *api.Yard) { *y = api.Yard{} }, api.ErrAmount},
		{"no pieces", func(y *api.Yard) { y.Parcels = nil }, api.OK},
		{"5 pieces", func(y *api.Yard) { *y = strong(5) }, api.OK},
		{"6 pieces", func(y *api.Yard) { *y = strong(6) }, api.ErrMany},
		{"6 pieces, before what they are", func(y *api.Yard) { y.Parcels = six }, api.ErrMany},
		{"6 pieces, before Limit", func(y *api.Yard) { y.Parcels, y.Limit = six, 0 }, api.ErrMany},
		{"Weight 0..3", last(parcel(0, 3, 0, 1)), api.ErrAmount},
		{"Weight -1..3", last(parcel(-1, 3, 0, 1)), api.ErrAmount},
		{"Weight 1..12", last(parcel(1, 12, 0, 1)), api.OK},
		{"Weight 12..12", last(parcel(12, 12, 0, 1)), api.OK},
		{"Weight 1..1", last(parcel(1, 1, 0, 1)), api.OK},
		{"Weight 1..13", last(parcel(1, 13, 0, 1)), api.ErrAmount},
		{"Weight 13..5", last(parcel(13, 5, 0, 1)), api.ErrAmount},
		{"Weight 5..0", last(parcel(5, 0, 0, 1)), api.ErrAmount},
		{"Weight 5..4", last(parcel(5, 4, 0, 1)), api.ErrOrder},
		{"Weight 5..4, before Bears", last(parcel(5, 4, 31, 1)), api.ErrOrder},
		{"Weight 5..4, before Tall", last(parcel(5, 4, 0, 0)), api.ErrOrder},
		{"Weight 5..4, before Limit", func(y *api.Yard) { y.Parcels[3], y.Limit = parcel(5, 4, 0, 1), 0 }, api.ErrOrder},
		{"Weight 5..4 of the first one", func(y *api.Yard) { y.Parcels[0].Weight = band(5, 4) }, api.ErrOrder},
		{"Weight 5..4, before the next piece", func(y *api.Yard) { y.Parcels[0].Weight, y.Parcels[1].Bears = band(5, 4), 31 }, api.ErrOrder},
		{"Bears 31, before the next piece", func(y *api.Yard) { y.Parcels[0].Bears, y.Parcels[1].Weight = 31, band(5, 4) }, api.ErrAmount},
		{"Tall 4, before the next piece", func(y *api.Yard) { y.Parcels[0].Tall, y.Parcels[1].Weight = 4, band(5, 4) }, api.ErrAmount},
		{"Bears 30", last(parcel(5, 5, 30, 1)), api.OK},
		{"Bears 31", last(parcel(5, 5, 31, 1)), api.ErrAmount},
		{"Bears 0", last(parcel(5, 5, 0, 1)), api.OK},
		{"Bears -1", last(parcel(5, 5, -1, 1)), api.ErrAmount},
		{"Tall 0", last(parcel(5, 5, 0, 0)), api.ErrAmount},
		{"Tall 3", last(parcel(5, 5, 0, 3)), api.OK},
		{"Tall 4", last(parcel(5, 5, 0, 4)), api.ErrAmount},
		{"Limit 0", func(y *api.Yard) { y.Limit = 0 }, api.ErrAmount},
		{"Limit -1", func(y *api.Yard) { y.Limit = -1 }, api.ErrAmount},
		{"Limit 12", func(y *api.Yard) { y.Limit = 12 }, api.OK},
		{"Limit 13", func(y *api.Yard) { y.Limit = 13 }, api.ErrAmount},
	}
	for _, x := range tests {
		a := ordinary()
		a.y = with(a.y, x.change)
		says(t, x.what, fmt.Sprint(pile.Check(a.y)), x.want)
		if x.want == api.OK {
			continue
		}
		refused(t, x.what, a, x.want, names()...)
		for _, bad := range []ints{{9}, {0, 0}, {-1}, {0, 1, 2, 3}} {
			a = args{a.y, bad, parcel(5, 4, 0, 0)}
			refused(t, x.what+", before all others", a, x.want, names()...)
		}
	}
	says(t, "Limit 1", fmt.Sprint(pile.Check(yardOf(1, parcel(1, 1, 0, 3)))), api.OK)
}

// P4.1: the first error of a pile, which all functions of a pile return (R1, R3).
func TestCheckPile(t *testing.T) {
	low := yardOf(3, parcel(1, 1, 9, 1), parcel(1, 1, 9, 2), parcel(1, 1, 9, 3), parcel(1, 1, 9, 1))
	for _, x := range []struct {
		what string
		y    api.Yard
		pile ints
		want api.Errno
	}{
		{"Y", yardY(), ints{0, 1, 2}, api.OK},
		{"Y", yardY(), ints{0, 1, 2, 3}, api.OK},
		{"Y", yardY(), ints{3, 2, 1, 0}, api.OK},
		{"Y", yardY(), nil, api.OK},
		{"Y", yardY(), ints{0, 4}, api.ErrUnknown},
		{"Y", yardY(), ints{-1}, api.ErrUnknown},
		{"Y", yardY(), ints{64}, api.ErrUnknown},
		{"Y", yardY(), ints{math.MaxInt}, api.ErrUnknown},
		{"Y", yardY(), ints{math.MinInt}, api.ErrUnknown},
		{"Y", yardY(), ints{1, 1}, api.ErrRepeat},
		{"Y", yardY(), ints{1, 0, 1}, api.ErrRepeat},
		{"a repeated one first", yardY(), ints{1, 1, 4}, api.ErrRepeat},
		{"an unknown one first", yardY(), ints{1, 4, 1}, api.ErrUnknown},
		{"one twice that is unknown", yardY(), ints{4, 4}, api.ErrUnknown},
		{"more than there are pieces", yardY(), ints{0, 1, 2, 3, 0, 1}, api.ErrRepeat},
		{"more than there can be pieces", tower(), ints{0, 1, 2, 3, 4, 5}, api.ErrUnknown},
		{"all there can be, and one again", tower(), ints{0, 1, 2, 3, 4, 0}, api.ErrRepeat},
		{"no pieces", yardOf(1), ints{0}, api.ErrUnknown},
		{"no pieces", yardOf(1), nil, api.OK},
		{"as high as may be", low, ints{0, 1}, api.OK},
		{"as high as may be", low, ints{2}, api.OK},
		{"too high", low, ints{0, 1, 3}, api.ErrSize},
		{"too high", low, ints{2, 0}, api.ErrSize},
		{"too high, and unknown", low, ints{2, 0, 4}, api.ErrUnknown},
		{"too high, and repeated", low, ints{2, 0, 0}, api.ErrRepeat},
		{"one alone is too high", yardOf(2, parcel(1, 1, 9, 3)), ints{0}, api.ErrSize},
		{"none, where one alone is too high", yardOf(2, parcel(1, 1, 9, 3)), nil, api.OK},
	} {
		what := fmt.Sprint(x.what, " ", x.pile)
		says(t, what, fmt.Sprint(pile.CheckPile(x.y, x.pile)), x.want)
		if x.want != api.OK {
			refused(t, what, args{y: x.y, pile: x.pile}, x.want, ofPiles()...)
		}
	}
}

// soft is a yard of light pieces, of which two bear little.
func soft() api.Yard {
	return yardOf(12, parcel(1, 3, 2, 1), parcel(1, 3, 2, 1), parcel(1, 3, 9, 1))
}

// either is a yard of which two pieces together, or one of them alone, can crush the last one.
func either() api.Yard {
	return yardOf(12, parcel(1, 9, 30, 1), parcel(1, 9, 30, 1), parcel(1, 1, 9, 1))
}

// bands returns the bands from each number to the one after it.
func bands(ends ...int) []api.Band {
	var l []api.Band
	for i := 0; i < len(ends); i += 2 {
		l = append(l, band(ends[i], ends[i+1]))
	}
	return l
}

// P4.1 to P4.3: Loads, Crushed, Stands and Spare.
func TestLoads(t *testing.T) {
	yes, no, some := api.Always, api.NoWay, api.Perhaps
	none := api.ErrEmpty
	heavy := with(either(), func(y *api.Yard) { y.Parcels[0].Weight = band(9, 9) })
	for _, x := range []struct {
		what    string
		y       api.Yard
		pile    ints
		loads   []api.Band
		crushed ints
		stands  int
		spare   api.Band
		e       api.Errno
	}{
		{"Y", yardY(), ints{0, 1, 2}, bands(6, 9, 2, 3, 0, 0), ints{no, no, no}, yes, band(3, 3), api.OK},
		{"Y", yardY(), ints{2, 0}, bands(8, 10, 0, 0), ints{yes, no}, no, band(0, 0), none},
		{"Y", yardY(), ints{3}, bands(0, 0), ints{no}, yes, band(0, 0), api.OK},
		{"Y", yardY(), ints{0}, bands(0, 0), ints{no}, yes, band(12, 12), api.OK},
		{"Y", yardY(), ints{0, 1}, bands(4, 6, 0, 0), ints{no, no}, yes, band(6, 6), api.OK},
		{"Y", yardY(), ints{2, 1, 0}, bands(12, 16, 8, 10, 0, 0), ints{yes, yes, no}, no, band(0, 0), none},
		{"Y", yardY(), ints{0, 1, 2, 3}, bands(11, 14, 7, 8, 5, 5, 0, 0), ints{some, yes, yes, no}, no, band(0, 0), none},
		{"Y", yardY(), nil, nil, nil, yes, band(0, 0), none},
		{"Z", yardZ(), ints{0, 1, 2}, bands(6, 9, 2, 3, 0, 0), ints{some, no, no}, some, band(-1, 2), api.OK},
		{"upside down", tower(), ints{0, 1, 2, 3, 4}, bands(14, 15, 12, 13, 9, 10, 5, 6, 0, 0), ints{yes, yes, yes, no, no}, no, band(0, 0), none},
		{"as much as they bear", tower(), ints{4, 3, 2, 1, 0}, bands(10, 10, 6, 6, 3, 3, 1, 1, 0, 0), ints{no, no, no, no, no}, yes, band(0, 0), api.OK},
		{"the middle one is in doubt", soft(), ints{2, 0, 1}, bands(2, 6, 1, 3, 0, 0), ints{no, some, no}, some, band(-1, 1), api.OK},
		{"two are in doubt", soft(), ints{0, 1, 2}, bands(2, 6, 1, 3, 0, 0), ints{some, some, no}, some, band(-1, 0), api.OK},
		{"a wide band", either(), ints{2, 1, 0}, bands(2, 18, 1, 9, 0, 0), ints{some, no, no}, some, band(-1, 7), api.OK},
		{"a narrow band", heavy, ints{2, 1, 0}, bands(10, 18, 9, 9, 0, 0), ints{yes, no, no}, no, band(0, 0), none},
		{"no pieces", yardOf(1), nil, nil, nil, yes, band(0, 0), none},
	} {
		what := fmt.Sprint(": ", x.what, " ", x.pile)
		says(t, "Loads"+what, fmt.Sprint(pile.Loads(x.y, x.pile)), x.loads, api.OK)
		says(t, "Crushed"+what, fmt.Sprint(pile.Crushed(x.y, x.pile)), x.crushed, api.OK)
		says(t, "Stands"+what, fmt.Sprint(pile.Stands(x.y, x.pile)), x.stands, api.OK)
		says(t, "Spare"+what, fmt.Sprint(pile.Spare(x.y, x.pile)), x.spare, x.e)
	}
}

// P4.3: On.
func TestOn(t *testing.T) {
	low := with(strong(3), func(y *api.Yard) { y.Limit, y.Parcels[2].Tall = 3, 2 })
	for _, x := range []struct {
		what string
		y    api.Yard
		pile ints
		on   ints
	}{
		{"Y", yardY(), ints{0, 1}, ints{2, 3}},
		{"Y", yardY(), ints{0}, ints{1, 2, 3}},
		{"Y", yardY(), ints{1}, ints{2, 3}},
		{"Y, on which nothing can be put", yardY(), ints{0, 1, 2}, nil},
		{"Y, which does not stand", yardY(), ints{2, 1}, nil},
		{"Y, without a pile", yardY(), nil, ints{0, 1, 2, 3}},
		{"Z, which stands perhaps", yardZ(), ints{0, 1, 2}, nil},
		{"all are on it", tower(), ints{4, 3, 2, 1, 0}, nil},
		{"all others", strong(5), ints{3}, ints{0, 1, 2, 4}},
		{"all are low enough", low, ints{1}, ints{0, 2}},
		{"one is too high", low, ints{1, 0}, nil},
		{"one is too high", low, ints{2}, ints{0, 1}},
		{"one is too high alone", yardOf(2, parcel(1, 1, 0, 3), parcel(1, 1, 0, 2)), nil, ints{1}},
		{"no pieces", yardOf(1), nil, nil},
	} {
		says(t, fmt.Sprint("On: ", x.what, " ", x.pile), fmt.Sprint(pile.On(x.y, x.pile)), x.on, api.OK)
	}
}

// P4.4: Weigh.
func TestWeigh(t *testing.T) {
	wide := yardOf(12, parcel(1, 12, 26, 1), parcel(1, 12, 30, 1), parcel(1, 12, 30, 1), parcel(1, 12, 30, 1), parcel(1, 12, 30, 1))
	known := with(wide, func(y *api.Yard) { y.Parcels[3].Weight = band(7, 7) })
	// If the highest one is heavy, the middle one is crushed; if it is not, nothing is.
	two := yardOf(12, parcel(1, 1, 3, 1), parcel(1, 2, 1, 1), parcel(1, 2, 1, 1))
	// The piece 0 is in doubt just if the piece 2 and one more are on it.
	some := yardOf(12, parcel(1, 1, 6, 1), parcel(1, 2, 9, 1), parcel(5, 5, 9, 1), parcel(1, 2, 9, 1))
	for _, x := range []struct {
		what string
		y    api.Yard
		pile ints
		want ints
	}{
		{"Y", yardY(), ints{0, 1, 2}, nil},
		{"Y, which never stands", yardY(), ints{0, 1, 2, 3}, nil},
		{"Y, without a pile", yardY(), nil, nil},
		{"Z", yardZ(), ints{0, 1, 2}, ints{1, 2}},
		{"the highest one", soft(), ints{2, 0, 1}, ints{1}},
		{"the higher one of two", soft(), ints{0, 2}, ints{2}},
		{"one that is heavy already", soft(), ints{0, 1, 2}, ints{1, 2}},
		{"two that are wide", either(), ints{2, 1, 0}, ints{0, 1}},
		{"one that is wide", either(), ints{2, 1}, nil},
		{"all but the lowest one, of the widest bands", wide, ints{0, 4, 3, 2, 1}, ints{1, 2, 3, 4}},
		{"not one that is known", known, ints{0, 4, 3, 2, 1}, ints{1, 2, 4}},
		{"none, of wide bands", wide, ints{0, 3, 1}, nil},
		{"the one that both others bear", two, ints{0, 1, 2}, ints{2}},
		{"the one that both others bear", two, ints{0, 2, 1}, ints{1}},
		{"the one that is not known", some, ints{0, 1, 2}, ints{1}},
		{"the one that is not known", some, ints{0, 2, 3}, ints{3}},
		{"none that is light", some, ints{0, 1, 3}, nil},
		{"none of those that are too heavy", some, ints{0, 3, 1, 2}, nil},
		{"a pile of one", soft(), ints{1}, nil},
	} {
		says(t, fmt.Sprint("Weigh: ", x.what, " ", x.pile), fmt.Sprint(pile.Weigh(x.y, x.pile)), x.want, api.OK)
	}
}

// P4.5, P4.6: Mend and Order.
func TestMend(t *testing.T) {
	two := yardOf(12, parcel(1, 1, 2, 1), parcel(1, 1, 9, 1), parcel(3, 3, 3, 1))
	for _, x := range []struct {
		what      string
		y         api.Yard
		pile      ints
		exchanges int
		mended    ints
		order     ints
		e         api.Errno
	}{
		{"Y", yardY(), ints{0, 1, 2}, 0, ints{0, 1, 2}, ints{0, 1, 2}, api.OK},
		{"Y", yardY(), ints{2, 1, 0}, 3, ints{0, 1, 2}, ints{0, 1, 2}, api.OK},
		{"Y", yardY(), ints{1, 0}, 1, ints{0, 1}, ints{0, 1}, api.OK},
		{"Y", yardY(), ints{3, 0}, 1, ints{0, 3}, ints{0, 3}, api.OK},
		{"Y", yardY(), ints{3, 1, 0}, 3, ints{0, 1, 3}, ints{0, 1, 3}, api.OK},
		{"Y", yardY(), ints{0, 1, 2, 3}, 0, nil, nil, api.ErrEmpty},
		{"Y, one", yardY(), ints{2}, 0, ints{2}, ints{2}, api.OK},
		{"Y, none", yardY(), nil, 0, nil, nil, api.OK},
		{"Z, which stands perhaps", yardZ(), ints{0, 1, 2}, 0, nil, nil, api.ErrEmpty},
		{"upside down", tower(), ints{0, 1, 2, 3, 4}, 10, ints{4, 3, 2, 1, 0}, ints{4, 3, 2, 1, 0}, api.OK},
		{"the first and the last one", tower(), ints{0, 3, 2, 1, 4}, 7, ints{4, 3, 2, 1, 0}, ints{4, 3, 2, 1, 0}, api.OK},
		{"the first of two", two, ints{0, 2, 1}, 1, ints{2, 0, 1}, ints{1, 2, 0}, api.OK},
		{"it stands, and another order is before it", two, ints{2, 1, 0}, 0, ints{2, 1, 0}, ints{1, 2, 0}, api.OK},
		{"each order stands", strong(5), ints{4, 2, 0, 1, 3}, 0, ints{4, 2, 0, 1, 3}, ints{0, 1, 2, 3, 4}, api.OK},
		{"the lowest one is not 0", strong(5), ints{4, 2}, 0, ints{4, 2}, ints{2, 4}, api.OK},
		{"perhaps is not surely", soft(), ints{0, 2}, 1, ints{2, 0}, ints{2, 0}, api.OK},
		{"no pieces", yardOf(1), nil, 0, nil, nil, api.OK},
	} {
		what := fmt.Sprint(": ", x.what, " ", x.pile)
		says(t, "Mend"+what, fmt.Sprint(pile.Mend(x.y, x.pile)), x.exchanges, x.mended, x.e)
		says(t, "Order"+what, fmt.Sprint(pile.Order(x.y, x.pile)), x.order, x.e)
	}
}

// P4.2, P4.3: what a piece bears that weighs as much on one that bears 5.
func TestPair(t *testing.T) {
	for _, x := range []struct {
		weight          api.Band
		crushed, stands int
		spare           api.Band
		e               api.Errno
		on              ints
	}{
		{band(4, 5), api.NoWay, api.Always, band(0, 1), api.OK, ints{1}},
		{band(5, 5), api.NoWay, api.Always, band(0, 0), api.OK, ints{1}},
		{band(1, 4), api.NoWay, api.Always, band(1, 4), api.OK, ints{1}},
		{band(5, 6), api.Perhaps, api.Perhaps, band(-1, 0), api.OK, nil},
		{band(1, 12), api.Perhaps, api.Perhaps, band(-1, 4), api.OK, nil},
		{band(6, 6), api.Always, api.NoWay, band(0, 0), api.ErrEmpty, nil},
		{band(6, 12), api.Always, api.NoWay, band(0, 0), api.ErrEmpty, nil},
	} {
		y := yardOf(12, parcel(1, 12, 5, 1), api.Parcel{Weight: x.weight, Bears: 30, Tall: 1})
		what := fmt.Sprint(x.weight)
		says(t, "Crushed "+what, fmt.Sprint(pile.Crushed(y, ints{0, 1})), ints{x.crushed, api.NoWay}, api.OK)
		says(t, "Stands "+what, fmt.Sprint(pile.Stands(y, ints{0, 1})), x.stands, api.OK)
		says(t, "Spare "+what, fmt.Sprint(pile.Spare(y, ints{0, 1})), x.spare, x.e)
		says(t, "On "+what, fmt.Sprint(pile.On(y, ints{0})), x.on, api.OK)
	}
}

// P4.3: Spare is the least of all pieces, not that of the highest one.
func TestSpare(t *testing.T) {
	y := yardOf(12, parcel(1, 12, 30, 1), parcel(2, 3, 7, 1), parcel(2, 4, 30, 1))
	says(t, "the middle one bears least", fmt.Sprint(pile.Spare(y, ints{0, 1, 2})), band(3, 5), api.OK)
	says(t, "the lowest one bears least", fmt.Sprint(pile.Spare(y, ints{1, 2, 0})), band(-1, 4), api.OK)
	says(t, "the highest one bears least", fmt.Sprint(pile.Spare(y, ints{0, 2, 1})), band(7, 7), api.OK)
	says(t, "one bears all", fmt.Sprint(pile.Spare(y, ints{0})), band(30, 30), api.OK)
}

// P4.6 to P4.8: all that is said of a yard.
func TestYard(t *testing.T) {
	low := yardOf(3, parcel(3, 3, 3, 1), parcel(3, 3, 3, 1), parcel(1, 2, 0, 1))
	tall := yardOf(2, parcel(1, 1, 9, 3), parcel(1, 1, 9, 1))
	for _, x := range []struct {
		what string
		y    api.Yard
		yardTold
	}{
		{"Y", yardY(), yardTold{0, ints{0, 1, 2}, []ints{{0, 1, 2}, {3}}, api.OK}},
		{"Y without its last piece", with(yardY(), func(y *api.Yard) { y.Parcels = y.Parcels[:3] }), yardTold{1, ints{0, 1, 2}, []ints{{0, 1, 2}}, api.OK}},
		{"Z", yardZ(), yardTold{0, ints{0, 1}, []ints{{0, 2}, {1, 3}}, api.OK}},
		{"two of three", low, yardTold{0, ints{0, 1}, []ints{{0}, {1, 2}}, api.OK}},
		{"upside down", tower(), yardTold{1, ints{4, 3, 2, 1, 0}, []ints{{4, 3, 2, 1, 0}}, api.OK}},
		{"each order", strong(5), yardTold{120, ints{0, 1, 2, 3, 4}, []ints{{0, 1, 2, 3, 4}}, api.OK}},
		{"two on one another", with(strong(5), func(y *api.Yard) { y.Limit = 2 }), yardTold{0, ints{0, 1}, []ints{{0}, {1, 2}, {3, 4}}, api.OK}},
		{"none on another", with(strong(5), func(y *api.Yard) { y.Limit = 1 }), yardTold{0, ints{0}, []ints{{0}, {1}, {2}, {3}, {4}}, api.OK}},
		{"three on one another", with(strong(5), func(y *api.Yard) { y.Limit = 3 }), yardTold{0, ints{0, 1, 2}, []ints{{0, 1}, {2, 3, 4}}, api.OK}},
		{"one", strong(1), yardTold{1, ints{0}, []ints{{0}}, api.OK}},
		{"no pieces", yardOf(5), yardTold{1, nil, nil, api.OK}},
		{"one alone is too high", tall, yardTold{0, ints{1}, nil, api.ErrEmpty}},
		{"all alone are too high", with(tall, func(y *api.Yard) { y.Parcels[1].Tall = 3 }), yardTold{0, nil, nil, api.ErrEmpty}},
		{"the last one is too high", with(strong(5), func(y *api.Yard) { y.Limit, y.Parcels[4].Tall = 2, 3 }), yardTold{0, ints{0, 1}, nil, api.ErrEmpty}},
		{"together too high", with(strong(2), func(y *api.Yard) { y.Limit = 1 }), yardTold{0, ints{0}, []ints{{0}, {1}}, api.OK}},
		{"the second pile begins below a lesser number", yardOf(12, parcel(2, 2, 0, 1), parcel(3, 3, 0, 1), parcel(9, 9, 3, 1), parcel(9, 9, 2, 1)), yardTold{0, ints{2, 0}, []ints{{2, 1}, {3, 0}}, api.OK}},
		{"perhaps is not surely", yardOf(12, parcel(1, 3, 2, 1), parcel(1, 3, 2, 1)), yardTold{0, ints{0}, []ints{{0}, {1}}, api.OK}},
	} {
		tellsYard(t, ": "+x.what, x.y, x.yardTold)
	}
}

// tellsYard reports what is not said of the yard as it should be.
func tellsYard(t *testing.T, what string, y api.Yard, x yardTold) {
	t.Helper()
	says(t, "Count"+what, fmt.Sprint(pile.Count(y)), x.count, api.OK)
	says(t, "Most"+what, fmt.Sprint(pile.Most(y)), x.most, api.OK)
	says(t, "Fewest"+what, fmt.Sprint(pile.Fewest(y)), x.few, x.fewE)
}

// P4.8: Add.
func TestAdd(t *testing.T) {
	for _, x := range []struct {
		what string
		y    api.Yard
		p    api.Parcel
		want api.Errno
	}{
		{"Y", yardY(), parcel(1, 1, 1, 1), api.OK},
		{"the first one", yardOf(1), parcel(1, 12, 30, 3), api.OK},
		{"too tall", yardY(), parcel(1, 1, 1, 4), api.ErrAmount},
		{"not tall", yardY(), parcel(1, 1, 1, 0), api.ErrAmount},
		{"bears too much", yardY(), parcel(1, 1, 31, 1), api.ErrAmount},
		{"bears less than nothing", yardY(), parcel(1, 1, -1, 1), api.ErrAmount},
		{"too heavy", yardY(), parcel(1, 13, 1, 1), api.ErrAmount},
		{"too light", yardY(), parcel(0, 1, 1, 1), api.ErrAmount},
		{"in no order", yardY(), parcel(2, 1, 31, 4), api.ErrOrder},
		{"too light, before the order", yardY(), parcel(2, 0, 1, 1), api.ErrAmount},
		{"one too many", strong(5), parcel(1, 1, 1, 1), api.ErrMany},
		{"one too many, before what it is", strong(5), parcel(2, 1, 31, 4), api.ErrMany},
	} {
		y := api.Yard{}
		if x.want == api.OK {
			y = with(x.y, func(y *api.Yard) { y.Parcels = append(y.Parcels, x.p) })
		}
		says(t, "Add: "+x.what, fmt.Sprint(pile.Add(x.y, x.p)), y, x.want)
	}
}

// R2, R4, R6: a call depends on its arguments alone, and changes none of them.
func TestAgain(t *testing.T) {
	for _, y := range []api.Yard{yardY(), yardZ(), with(strong(4), func(y *api.Yard) { y.Parcels[0].Bears = 5 })} {
		a := ordinary()
		a.y = with(y, func(y *api.Yard) { y.Parcels = append(make([]api.Parcel, 0, 9), y.Parcels...) })
		a.pile = append(make(ints, 0, 9), a.pile...)
		before := a.results()
		var group sync.WaitGroup
		for range 4 {
			group.Go(func() {
				for range 20 {
					if again := a.results(); !maps.Equal(again, before) {
						t.Errorf("%v; before %v", again, before)
					}
				}
			})
		}
		group.Wait()
		behind := a.y.Parcels[len(a.y.Parcels):9]
		if !reflect.DeepEqual(a.y, y) || !slices.Equal(a.pile, ordinary().pile) {
			t.Error("arguments are changed:", a)
		}
		if !slices.Equal(behind, make([]api.Parcel, len(behind))) || !slices.Equal(a.pile[3:9], make(ints, 6)) {
			t.Error("what is behind arguments is changed:", behind, a.pile[3:9])
		}
	}
}

// R4: no result shares memory with an argument, or another result.
func TestMemory(t *testing.T) {
	a := ordinary()
	before := a.results()
	loads, _ := pile.Loads(a.y, a.pile)
	crushed, _ := pile.Crushed(a.y, a.pile)
	on, _ := pile.On(a.y, a.pile[:1])
	weigh, _ := pile.Weigh(yardZ(), a.pile)
	_, mended, _ := pile.Mend(a.y, a.pile)
	order, _ := pile.Order(a.y, a.pile)
	most, _ := pile.Most(a.y)
	fewest, _ := pile.Fewest(a.y)
	added, _ := pile.Add(a.y, a.p)
	lists := []ints{crushed, on, weigh, mended, order, most, fewest[1], fewest[0]}
	for _, l := range lists {
		for i := range l {
			l[i] = -7
		}
		_ = append(l, -8)
	}
	for _, l := range lists {
		if len(l) == 0 || slices.Min(l) != -7 || slices.Max(l) != -7 {
			t.Error("results share memory:", lists)
		}
	}
	loads[0] = band(-7, -7)
	for i := range added.Parcels {
		added.Parcels[i] = parcel(-7, -7, -7, -7)
	}
	if again := a.results(); !maps.Equal(again, before) || !reflect.DeepEqual(a, ordinary()) {
		t.Errorf("%v; before %v", again, before)
	}
}

// R4: a nil slice and an empty one mean the same.
func TestNothing(t *testing.T) {
	for _, y := range []api.Yard{yardY(), yardOf(1), {Parcels: []api.Parcel{}, Limit: 1}} {
		a, b := args{y: y}, args{y: y, pile: ints{}}
		if x, z := a.results(), b.results(); !maps.Equal(x, z) {
			t.Error(x, z)
		}
	}
}

// P1, R5: whatever the arguments are, a function returns, with zero values beside an error.
func TestAnything(t *testing.T) {
	rng := rand.New(rand.NewPCG(5, 6))
	odd := ints{math.MinInt, math.MinInt + 1, -1, 0, 1, 2, 3, 4, 5, 6, 8, 12, 30, 31, 63, 64, 1 << 32, math.MaxInt - 1, math.MaxInt}
	some := func() int { return odd[rng.IntN(len(odd))] }
	blank := map[string][]string{} // what a function may say if there is an error
	for e := api.OK + 1; e <= api.ErrClosed; e++ {
		for name, text := range refusals(e) {
			blank[name] = append(blank[name], text)
		}
	}
	for range 10000 {
		y := drawn(rng, 4, 2)
		a := args{y, pileOf(rng, y), parcel(some(), some(), some(), some())}
		for range rng.IntN(3) {
			switch rng.IntN(4) {
			case 0:
				a.pile = append(a.pile, some(), some())
			case 1:
				a.y.Parcels = append(a.y.Parcels, parcel(some(), some(), some(), some()))
			case 2:
				a.y.Limit = some()
			case 3:
				a.y.Parcels = append(a.y.Parcels, parcel(1, 1+rng.IntN(3), rng.IntN(30), 1+rng.IntN(3)))
			}
		}
		for name, text := range a.results() {
			if !strings.HasSuffix(text, fmt.Sprint(api.OK)) && !slices.Contains(blank[name], text) {
				t.Fatalf("%s of %v: %s", name, a, text)
			}
		}
	}
	long := make(ints, 1<<20)
	refused(t, "a long pile", args{y: yardY(), pile: long}, api.ErrRepeat, ofPiles()...)
	many := make([]api.Parcel, 1<<20)
	refused(t, "many pieces", args{y: yardOf(1, many...), pile: long}, api.ErrMany, names()...)
}

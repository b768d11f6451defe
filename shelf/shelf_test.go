package shelf_test

import (
	"fmt"
	"maps"
	"math"
	"math/rand/v2"
	"reflect"
	"slices"
	"strings"
	"sync"
	"testing"

	"gladstone/api"
	"gladstone/shelf"
)

// args are arguments for all functions.
type args struct {
	s                 api.Shelf
	piece, i, k, lane int
	hours             ints
}

// ordinary returns arguments of which none is wrong.
func ordinary() args { return args{shelfS(), 0, 0, 1, 1, ints{3, 2}} }

// results returns what each function says, by its name. (A nil list is written as an empty one is.)
func (a args) results() map[string]string {
	return map[string]string{
		"Check":  fmt.Sprint(shelf.Check(a.s)),
		"Room":   fmt.Sprint(shelf.Room(a.s)),
		"Front":  fmt.Sprint(shelf.Front(a.s, a.piece)),
		"Must":   fmt.Sprint(shelf.Must(a.s, a.i, a.k)),
		"Moved":  fmt.Sprint(shelf.Moved(a.s, a.hours)),
		"Moves":  fmt.Sprint(shelf.Moves(a.s)),
		"Quiet":  fmt.Sprint(shelf.Quiet(a.s)),
		"Next":   fmt.Sprint(shelf.Next(a.s)),
		"Best":   fmt.Sprint(shelf.Best(a.s)),
		"Lucky":  fmt.Sprint(shelf.Lucky(a.s)),
		"Count":  fmt.Sprint(shelf.Count(a.s)),
		"Fewest": fmt.Sprint(shelf.Fewest(a.s)),
		"Ask":    fmt.Sprint(shelf.Ask(a.s)),
		"Put":    fmt.Sprint(shelf.Put(a.s, a.lane)),
	}
}

// refusals returns what each function says with the error: all other results are zero values (R3).
func refusals(e api.Errno) map[string]string {
	none := ints{}
	return map[string]string{
		"Check":  fmt.Sprint(e),
		"Room":   fmt.Sprint(none, e),
		"Front":  fmt.Sprint(none, e),
		"Must":   fmt.Sprint(0, e),
		"Moved":  fmt.Sprint(0, e),
		"Moves":  fmt.Sprint(api.Band{}, e),
		"Quiet":  fmt.Sprint(none, e),
		"Next":   fmt.Sprint(0, 0, e),
		"Best":   fmt.Sprint(none, 0, e),
		"Lucky":  fmt.Sprint(none, 0, e),
		"Count":  fmt.Sprint(0, e),
		"Fewest": fmt.Sprint(0, e),
		"Ask":    fmt.Sprint(0, 0, e),
		"Put":    fmt.Sprint(api.Shelf{}, e),
	}
}

// names returns the names of all functions.
func names() []string { return slices.Sorted(maps.Keys(refusals(api.OK))) }

// refused reports each of the functions that does not refuse the arguments with the error.
func refused(t *testing.T, what string, a args, e api.Errno, functions ...string) {
	t.Helper()
	got, wanted := a.results(), refusals(e)
	for _, name := range functions {
		if got[name] != wanted[name] {
			t.Errorf("%s: %s: %s; want %s", what, name, got[name], wanted[name])
		}
	}
}

// says reports results that are not the wanted ones; both are written down by fmt.Sprint.
func says(t *testing.T, what, got string, wanted ...any) {
	t.Helper()
	if text := fmt.Sprint(wanted...); got != text {
		t.Errorf("%s: %s; want %s", what, got, text)
	}
}

// P3.1: the first error of a shelf, which all functions return first (R1, R3).
func TestCheck(t *testing.T) {
	six := make([]api.Bag, 6)
	short := func(n int) []api.Bag { return slices.Repeat([]api.Bag{bag(1, 0, 6)}, n) }
	tests := []struct {
		what   string
		change func(s *api.Shelf)
		want   api.Errno
	}{
		{"S", func(s *api.Shelf) {}, api.OK},
		{"T", func(s *api.Shelf) { s.Plan = nil }, api.OK},
		{"U", func(s *api.Shelf) { *s = shelfU() }, api.OK},
		{"W", func(s *api.Shelf) { *s = shelfW() }, api.OK},
		{"nothing", func(s *api.Shelf) { *s = api.Shelf{} }, api.ErrFew},
		{"without lanes", func(s *api.Shelf) { s.Lanes = ints{} }, api.ErrFew},
		{"without lanes, before pieces", func(s *api.Shelf) { s.Lanes, s.Bags = nil, six }, api.ErrFew},
		{"3 lanes", func(s *api.Shelf) { s.Lanes = ints{5, 4, 1} }, api.OK},
		{"4 lanes", func(s *api.Shelf) { s.Lanes = ints{5, 4, 1, 1} }, api.ErrMany},
		{"4 lanes, before their lengths", func(s *api.Shelf) { s.Lanes = ints{0, 10, 1, 1} }, api.ErrMany},
		{"the lane 10", func(s *api.Shelf) { s.Lanes = ints{5, 10} }, api.ErrAmount},
		{"the lane 9", func(s *api.Shelf) { s.Lanes = ints{5, 9} }, api.OK},
		{"the lane 1", func(s *api.Shelf) { s.Lanes = ints{5, 1} }, api.OK},
		{"the lane 0", func(s *api.Shelf) { s.Lanes = ints{5, 0} }, api.ErrAmount},
		{"the first lane -1", func(s *api.Shelf) { s.Lanes = ints{-1, 4} }, api.ErrAmount},
		{"the lane 10, before 6 pieces", func(s *api.Shelf) { s.Lanes, s.Bags = ints{5, 10}, six }, api.ErrAmount},
		{"no pieces", func(s *api.Shelf) { s.Bags, s.Plan = nil, nil }, api.OK},
		{"5 pieces", func(s *api.Shelf) { s.Bags = short(5) }, api.OK},
		{"6 pieces", func(s *api.Shelf) { s.Bags = short(6) }, api.ErrMany},
		{"6 pieces, before what they are", func(s *api.Shelf) { s.Bags = six }, api.ErrMany},
		{"Long 0", func(s *api.Shelf) { s.Bags[2].Long = 0 }, api.ErrAmount},
		{"Long -1", func(s *api.Shelf) { s.Bags[3].Long = -1 }, api.ErrAmount},
		{"Long 9", func(s *api.Shelf) { s.Bags[3].Long = 9 }, api.OK},
		{"Long 10", func(s *api.Shelf) { s.Bags[3].Long = 10 }, api.ErrAmount},
		{"Long 0, before Out", func(s *api.Shelf) { s.Bags[1] = bag(0, 2, 1) }, api.ErrAmount},
		{"Out -1..4", func(s *api.Shelf) { s.Bags[0].Out.Min = -1 }, api.ErrAmount},
		{"Out 3..7", func(s *api.Shelf) { s.Bags[0].Out.Max = 7 }, api.ErrAmount},
		{"Out 7..3", func(s *api.Shelf) { s.Bags[0].Out = band(7, 3) }, api.ErrAmount},
		{"Out 3..-1", func(s *api.Shelf) { s.Bags[0].Out = band(3, -1) }, api.ErrAmount},
		{"Out 0..6", func(s *api.Shelf) { s.Bags[0].Out = band(0, 6) }, api.OK},
		{"Out 6..6", func(s *api.Shelf) { s.Bags[0].Out = band(6, 6) }, api.OK},
		{"Out 4..3", func(s *api.Shelf) { s.Bags[0].Out = band(4, 3) }, api.ErrOrder},
		{"Out 4..3, before the next piece", func(s *api.Shelf) { s.Bags[0].Out, s.Bags[1].Long = band(4, 3), 0 }, api.ErrOrder},
		{"Out 4..3 of the last piece", func(s *api.Shelf) { s.Bags[3].Out = band(4, 3) }, api.ErrOrder},
		{"a piece before Plan", func(s *api.Shelf) { s.Bags[3].Long, s.Plan = 0, ints{9} }, api.ErrAmount},
		{"Plan for all pieces", func(s *api.Shelf) { s.Plan = ints{0, 0, 1, 0} }, api.OK},
		{"Plan for 5 pieces", func(s *api.Shelf) { s.Plan = ints{0, 0, 1, 0, 0} }, api.ErrMany},
		{"Plan for 5 pieces, before its lanes", func(s *api.Shelf) { s.Plan = ints{9, 0, 1, 0, 0} }, api.ErrMany},
		{"Plan for no pieces", func(s *api.Shelf) { s.Bags = nil }, api.ErrMany},
		{"Plan 0 2", func(s *api.Shelf) { s.Plan = ints{0, 2} }, api.ErrUnknown},
		{"Plan -1", func(s *api.Shelf) { s.Plan = ints{-1} }, api.ErrUnknown},
		{"Plan 0 0 0", func(s *api.Shelf) { s.Plan = ints{0, 0, 0} }, api.ErrSize},
		{"Plan 0 0 0 2", func(s *api.Shelf) { s.Plan = ints{0, 0, 0, 2} }, api.ErrSize},
		{"Plan 0 0 2 0", func(s *api.Shelf) { s.Plan = ints{0, 0, 2, 0} }, api.ErrUnknown},
		{"Plan 1 1 1", func(s *api.Shelf) { s.Plan = ints{1, 1, 1} }, api.ErrSize},
		{"Plan 1 1, which fills the lane", func(s *api.Shelf) { s.Plan = ints{1, 1} }, api.OK},
		{"a piece that is longer than a lane", func(s *api.Shelf) { s.Bags[0].Long = 6 }, api.ErrSize},
		{"a piece that has not come is longer than all lanes", func(s *api.Shelf) { s.Bags[2].Long = 6 }, api.OK},
	}
	for _, x := range tests {
		a := ordinary()
		a.s = with(a.s, x.change)
		says(t, x.what, fmt.Sprint(shelf.Check(a.s)), x.want)
		if x.want == api.OK {
			continue
		}
		refused(t, x.what, a, x.want, names()...)
		a = args{a.s, -1, 9, 9, 9, make(ints, 9)}
		refused(t, x.what+", before all others", a, x.want, names()...)
	}
}

// The errors of what is named beside the shelf, in their order.
func TestArguments(t *testing.T) {
	tests := []struct {
		what     string
		change   func(a *args)
		want     api.Errno
		function string
	}{
		{"a piece that has not come", func(a *args) { a.piece = 2 }, api.ErrUnknown, "Front"},
		{"a piece that is none", func(a *args) { a.piece = 4 }, api.ErrUnknown, "Front"},
		{"the piece -1", func(a *args) { a.piece = -1 }, api.ErrUnknown, "Front"},
		{"a piece, and none came", func(a *args) { a.s = shelfT() }, api.ErrUnknown, "Front"},
		{"i has not come", func(a *args) { a.i = 2 }, api.ErrUnknown, "Must"},
		{"i is -1", func(a *args) { a.i = -1 }, api.ErrUnknown, "Must"},
		{"k has not come", func(a *args) { a.k = 3 }, api.ErrUnknown, "Must"},
		{"k is -1", func(a *args) { a.k = -1 }, api.ErrUnknown, "Must"},
		{"both have not come, and are the same", func(a *args) { a.i, a.k = 2, 2 }, api.ErrUnknown, "Must"},
		{"both are the same", func(a *args) { a.i, a.k = 1, 1 }, api.ErrKind, "Must"},
		{"both are the first one", func(a *args) { a.i, a.k = 0, 0 }, api.ErrKind, "Must"},
		{"one hour for two", func(a *args) { a.hours = ints{3} }, api.ErrFew, "Moved"},
		{"one wrong hour for two", func(a *args) { a.hours = ints{9} }, api.ErrFew, "Moved"},
		{"no hours", func(a *args) { a.hours = nil }, api.ErrFew, "Moved"},
		{"three hours for two", func(a *args) { a.hours = ints{3, 2, 2} }, api.ErrMany, "Moved"},
		{"hours for all pieces", func(a *args) { a.hours = ints{9, 9, 9, 9} }, api.ErrMany, "Moved"},
		{"more hours than pieces", func(a *args) { a.hours = make(ints, 6) }, api.ErrMany, "Moved"},
		{"an hour, and none came", func(a *args) { a.s, a.hours = shelfT(), ints{3} }, api.ErrMany, "Moved"},
		{"an earlier hour", func(a *args) { a.hours = ints{2, 2} }, api.ErrContrary, "Moved"},
		{"a later hour", func(a *args) { a.hours = ints{4, 3} }, api.ErrContrary, "Moved"},
		{"an hour that there is not", func(a *args) { a.hours = ints{3, -1} }, api.ErrContrary, "Moved"},
		{"all came", func(a *args) { a.s = shelfU() }, api.ErrClosed, "Next"},
		{"there are no pieces", func(a *args) { a.s = shelfOf(ints{1}, nil) }, api.ErrClosed, "Next"},
		{"there is no room", func(a *args) { a.s.Bags[2].Long = 5 }, api.ErrEmpty, "Next"},
		{"all came, and it is no lane", func(a *args) { a.s, a.lane = shelfU(), 9 }, api.ErrClosed, "Put"},
		{"all came", func(a *args) { a.s, a.lane = shelfU(), 0 }, api.ErrClosed, "Put"},
		{"there are no pieces", func(a *args) { a.s = shelfOf(ints{1}, nil) }, api.ErrClosed, "Put"},
		{"the lane 2", func(a *args) { a.lane = 2 }, api.ErrUnknown, "Put"},
		{"the lane -1", func(a *args) { a.lane = -1 }, api.ErrUnknown, "Put"},
		{"the lane 0, that has no room", func(a *args) { a.lane = 0 }, api.ErrSize, "Put"},
	}
	for _, x := range tests {
		a := ordinary()
		x.change(&a)
		refused(t, x.what, a, x.want, x.function)
	}
}

// P3.1: Room and Front.
func TestRoom(t *testing.T) {
	mixed := shelfOf(ints{9, 4, 2}, ints{0, 1, 0, 1, 0}, bag(1, 0, 0), bag(2, 0, 0), bag(3, 0, 0), bag(2, 0, 0), bag(5, 0, 0))
	for _, x := range []struct {
		what  string
		s     api.Shelf
		room  ints
		front []ints
	}{
		{"S", shelfS(), ints{1, 4}, []ints{{1}, {}}},
		{"T", shelfT(), ints{5, 4}, nil},
		{"U", shelfU(), ints{1}, []ints{{1, 2, 3}, {2, 3}, {3}, {}}},
		{"two lanes", mixed, ints{0, 0, 2}, []ints{{2, 4}, {3}, {4}, {}, {}}},
		{"a part of it", planned(mixed, ints{0, 1, 0}), ints{5, 2, 2}, []ints{{2}, {}, {}}},
		{"no pieces", shelfOf(ints{1, 9}, nil), ints{1, 9}, nil},
	} {
		says(t, "Room: "+x.what, fmt.Sprint(shelf.Room(x.s)), x.room, api.OK)
		for piece, want := range x.front {
			says(t, fmt.Sprint("Front: ", x.what, "; ", piece), fmt.Sprint(shelf.Front(x.s, piece)), want, api.OK)
		}
	}
}

// P3.2, P3.3: Must for the pieces 0 and 1, and Moves and Quiet, if both are in one lane.
func TestPair(t *testing.T) {
	for _, x := range []struct {
		behind, before api.Band
		must           int
		moves          api.Band
		quiet          ints
	}{
		{band(3, 4), band(1, 2), api.NoWay, band(0, 0), ints{0, 1}},
		{band(3, 4), band(1, 3), api.NoWay, band(0, 0), ints{0, 1}},
		{band(3, 3), band(3, 3), api.NoWay, band(0, 0), ints{0, 1}},
		{band(3, 4), band(1, 4), api.Perhaps, band(0, 1), ints{1}},
		{band(3, 4), band(4, 4), api.Perhaps, band(0, 1), ints{1}},
		{band(3, 4), band(4, 6), api.Perhaps, band(0, 1), ints{1}},
		{band(0, 6), band(0, 6), api.Perhaps, band(0, 1), ints{1}},
		{band(3, 4), band(5, 6), api.Always, band(1, 1), ints{1}},
		{band(0, 0), band(1, 1), api.Always, band(1, 1), ints{1}},
	} {
		s := shelfOf(ints{2, 2}, ints{0, 0}, api.Bag{Long: 1, Out: x.behind}, api.Bag{Long: 1, Out: x.before})
		what := fmt.Sprint(x.behind, x.before)
		says(t, "Must "+what, fmt.Sprint(shelf.Must(s, 0, 1)), x.must, api.OK)
		says(t, "Must, the other way "+what, fmt.Sprint(shelf.Must(s, 1, 0)), api.NoWay, api.OK)
		says(t, "Moves "+what, fmt.Sprint(shelf.Moves(s)), x.moves, api.OK)
		says(t, "Quiet "+what, fmt.Sprint(shelf.Quiet(s)), x.quiet, api.OK)
		s.Plan = ints{0, 1}
		says(t, "Must, in two lanes "+what, fmt.Sprint(shelf.Must(s, 0, 1)), api.NoWay, api.OK)
		says(t, "Moves, in two lanes "+what, fmt.Sprint(shelf.Moves(s)), band(0, 0), api.OK)
		says(t, "Quiet, in two lanes "+what, fmt.Sprint(shelf.Quiet(s)), ints{0, 1}, api.OK)
	}
	says(t, "Must(S; 0, 1)", fmt.Sprint(shelf.Must(shelfS(), 0, 1)), api.NoWay, api.OK)
	says(t, "Must(U; 0, 2)", fmt.Sprint(shelf.Must(shelfU(), 0, 2)), api.Perhaps, api.OK)
	says(t, "Must(U; 2, 0)", fmt.Sprint(shelf.Must(shelfU(), 2, 0)), api.NoWay, api.OK)
	says(t, "Must(U; 1, 1)", fmt.Sprint(shelf.Must(shelfU(), 1, 1)), 0, api.ErrKind)
}

// P3.2: Moved.
func TestMoved(t *testing.T) {
	two := shelfOf(ints{9, 9}, ints{0, 1, 0, 1, 0}, bag(1, 0, 6), bag(1, 0, 6), bag(1, 0, 6), bag(1, 0, 6), bag(1, 0, 6))
	one := planned(two, ints{1, 1, 1, 1, 1})
	for _, x := range []struct {
		what  string
		s     api.Shelf
		hours ints
		want  int
	}{
		{"U", shelfU(), ints{3, 1, 4, 0}, 2},
		{"U", shelfU(), ints{4, 2, 2, 1}, 0},
		{"U", shelfU(), ints{4, 2, 5, 0}, 2},
		{"S", shelfS(), ints{3, 2}, 0},
		{"T", shelfT(), nil, 0},
		{"two lanes, at one hour", two, ints{2, 2, 2, 2, 2}, 0},
		{"two lanes, one after another", two, ints{0, 1, 2, 3, 4}, 4},
		{"one lane, one after another", one, ints{0, 1, 2, 3, 4}, 10},
		{"one lane, from the front on", one, ints{4, 3, 2, 1, 0}, 0},
		{"one lane, the last one at last", one, ints{0, 0, 0, 0, 6}, 4},
		{"one lane, the first one at first", one, ints{0, 6, 6, 6, 6}, 4},
	} {
		says(t, "Moved: "+x.what, fmt.Sprint(shelf.Moved(x.s, x.hours)), x.want, api.OK)
	}
	refused(t, "U", args{s: shelfU(), hours: ints{3, 1, 6, 0}}, api.ErrContrary, "Moved")
	refused(t, "U", args{s: shelfU(), hours: ints{3, 1}}, api.ErrFew, "Moved")
}

// P3.3: Moves and Quiet.
func TestMoves(t *testing.T) {
	wide := shelfOf(ints{9}, ints{0, 0, 0, 0, 0}, bag(1, 0, 6), bag(1, 0, 6), bag(1, 0, 6), bag(1, 0, 6), bag(1, 0, 6))
	// The middle one cannot be later than the first one, and earlier than the last one, at once.
	torn := shelfOf(ints{9}, ints{0, 0, 0}, bag(1, 2, 2), bag(1, 1, 3), bag(1, 2, 2))
	// The middle one is later than the first one, or earlier than the last one.
	either := shelfOf(ints{9}, ints{0, 0, 0}, bag(1, 1, 1), bag(1, 1, 2), bag(1, 2, 2))
	sure := shelfOf(ints{4, 9}, ints{0, 1, 1, 0, 1}, bag(1, 0, 1), bag(1, 2, 3), bag(1, 4, 6), bag(1, 2, 2), bag(1, 3, 5))
	for _, x := range []struct {
		what  string
		s     api.Shelf
		moves api.Band
		quiet ints
	}{
		{"S", shelfS(), band(0, 0), ints{0, 1}},
		{"T", shelfT(), band(0, 0), ints{0, 1}},
		{"U", shelfU(), band(0, 2), nil},
		{"all hours", wide, band(0, 10), nil},
		{"not all pairs at once", torn, band(0, 1), nil},
		{"one of two pairs, and a sure one", either, band(2, 2), nil},
		{"two lanes", sure, band(2, 4), nil},
		{"two lanes, one of them quiet", planned(sure, ints{1, 0, 1, 0}), band(1, 1), ints{0}},
		{"no pieces", shelfOf(ints{1, 1, 1}, nil), band(0, 0), ints{0, 1, 2}},
	} {
		says(t, "Moves: "+x.what, fmt.Sprint(shelf.Moves(x.s)), x.moves, api.OK)
		says(t, "Quiet: "+x.what, fmt.Sprint(shelf.Quiet(x.s)), x.quiet, api.OK)
	}
}

// P3.4: Next.
func TestNext(t *testing.T) {
	late := shelfOf(ints{2, 2, 2}, ints{0, 1}, bag(1, 2, 3), bag(1, 4, 6), bag(1, 5, 5))
	for _, x := range []struct {
		what        string
		s           api.Shelf
		lane, worst int
		e           api.Errno
	}{
		{"S", shelfS(), 1, 0, api.OK},
		{"T", shelfT(), 0, 0, api.OK},
		{"W", shelfW(), 0, 0, api.OK},
		{"U", shelfU(), 0, 0, api.ErrClosed},
		{"the third lane is quiet", late, 2, 0, api.OK},
		{"none is quiet", with(late, func(s *api.Shelf) { s.Lanes = ints{2, 2} }), 0, 1, api.OK},
		{"one has no room", with(late, func(s *api.Shelf) { s.Lanes = ints{1, 2} }), 1, 1, api.OK},
		{"none has room", with(late, func(s *api.Shelf) { s.Lanes = ints{1, 1} }), 0, 0, api.ErrEmpty},
		{"not for the piece after it", shelfOf(ints{2}, nil, bag(1, 0, 0), bag(2, 0, 0)), 0, 0, api.OK},
		{"what is moved already counts", shelfOf(ints{2, 1}, ints{0, 0}, bag(1, 1, 1), bag(1, 2, 2), bag(1, 3, 3)), 1, 1, api.OK},
		{"no pieces", shelfOf(ints{2}, nil), 0, 0, api.ErrClosed},
	} {
		says(t, "Next: "+x.what, fmt.Sprint(shelf.Next(x.s)), x.lane, x.worst, x.e)
	}
}

// P3.5, P3.6: Best, Lucky, Count and Fewest.
func TestPlans(t *testing.T) {
	later := shelfOf(ints{9, 9}, nil, bag(1, 1, 1), bag(1, 2, 2), bag(1, 3, 3))
	// The worst wants both in two lanes, the luck is 0 in one lane, too.
	unsure := shelfOf(ints{9, 9}, nil, bag(1, 1, 2), bag(1, 2, 3))
	for _, x := range []struct {
		what string
		s    api.Shelf
		told
	}{
		{"S", shelfS(), told{ints{0, 0, 1, 0}, 0, ints{0, 0, 1, 0}, 0, 2, 2}},
		{"T", shelfT(), told{ints{0, 0, 1, 0}, 0, ints{0, 0, 1, 0}, 0, 3, 2}},
		{"U", shelfU(), told{ints{0, 0, 0, 0}, 2, ints{0, 0, 0, 0}, 0, 1, -1}},
		{"W", shelfW(), told{ints{0, 0, 1}, 1, ints{0, 0, 1}, 0, 3, -1}},
		{"each later", later, told{ints{0, 0, 1}, 1, ints{0, 0, 1}, 1, 6, -1}},
		{"each later, and three lanes", with(later, func(s *api.Shelf) { s.Lanes = ints{1, 1, 1} }), told{ints{0, 1, 2}, 0, ints{0, 1, 2}, 0, 6, 3}},
		{"each later, and two are in one lane", planned(later, ints{1, 1}), told{ints{1, 1, 0}, 1, ints{1, 1, 0}, 1, 1, -1}},
		{"each earlier", shelfOf(ints{9, 9}, nil, bag(1, 3, 3), bag(1, 2, 2), bag(1, 1, 1)), told{ints{0, 0, 0}, 0, ints{0, 0, 0}, 0, 8, 1}},
		{"the least worst is not the least luck", unsure, told{ints{0, 1}, 0, ints{0, 0}, 0, 2, 2}},
		{"in the last lane", shelfOf(ints{1, 1, 9}, ints{2}, bag(2, 3, 3), bag(2, 1, 1)), told{ints{2, 2}, 0, ints{2, 2}, 0, 1, 3}},
		{"no pieces", shelfOf(ints{1}, nil), told{nil, 0, nil, 0, 1, 0}},
		{"all came", shelfOf(ints{9, 9}, ints{1, 1}, bag(1, 0, 2), bag(1, 1, 1)), told{ints{1, 1}, 1, ints{1, 1}, 0, 1, -1}},
	} {
		says(t, "Best: "+x.what, fmt.Sprint(shelf.Best(x.s)), x.plan, x.worst, api.OK)
		says(t, "Lucky: "+x.what, fmt.Sprint(shelf.Lucky(x.s)), x.lucky, x.luck, api.OK)
		says(t, "Count: "+x.what, fmt.Sprint(shelf.Count(x.s)), x.count, api.OK)
		a := args{s: x.s}
		if x.fewest < 0 {
			refused(t, x.what, a, api.ErrEmpty, "Fewest")
		} else {
			says(t, "Fewest: "+x.what, fmt.Sprint(shelf.Fewest(x.s)), x.fewest, api.OK)
		}
	}
	for _, plan := range []ints{nil, {0}} {
		a := args{s: shelfOf(ints{2, 1}, plan, bag(1, 0, 0), bag(1, 0, 0), bag(2, 0, 0), bag(1, 0, 0))}
		refused(t, "no full plan", a, api.ErrEmpty, "Best", "Lucky", "Count", "Fewest", "Ask")
	}
}

// asking is a shelf, and what Ask says of it.
type asking struct {
	what         string
	s            api.Shelf
	piece, worst int
	e            api.Errno
}

func asked() []asking {
	one := func(bags ...api.Bag) api.Shelf { return shelfOf(ints{9}, make(ints, len(bags)), bags...) }
	return []asking{
		{"W, where two are as good", shelfW(), 1, 0, api.OK},
		{"S, where nothing is moved", shelfS(), 0, 0, api.ErrEmpty},
		{"W, of which one came", planned(shelfW(), ints{1}), 0, 0, api.ErrEmpty},
		{"some still are moved", shelfOf(ints{6, 6}, ints{1}, bag(2, 4, 5), bag(2, 3, 5), bag(2, 2, 5), bag(2, 6, 6)), 1, 1, api.OK},
		{"it is a later one", shelfOf(ints{7, 4}, ints{1, 1}, bag(1, 3, 6), bag(1, 4, 4), bag(1, 0, 4), bag(1, 4, 4)), 2, 1, api.OK},
		{"it came", shelfOf(ints{3, 4}, ints{1, 1}, bag(1, 4, 5), bag(1, 2, 5), bag(1, 4, 4), bag(1, 2, 5), bag(1, 1, 3)), 1, 1, api.OK},
		{"all came", one(bag(1, 0, 3), bag(1, 0, 3)), 0, 0, api.ErrEmpty},
		{"all is known", one(bag(1, 0, 0), bag(1, 1, 1)), 0, 0, api.ErrEmpty},
		{"no pieces", one(), 0, 0, api.ErrEmpty},
		{"no full plan", shelfOf(ints{1}, nil, bag(1, 0, 6), bag(1, 0, 6)), 0, 0, api.ErrEmpty},
	}
}

// P3.7: Ask.
func TestAsk(t *testing.T) {
	for _, x := range asked() {
		says(t, "Ask: "+x.what, fmt.Sprint(shelf.Ask(x.s)), x.piece, x.worst, x.e)
	}
}

// P3.8: Put.
func TestPut(t *testing.T) {
	for _, x := range []struct {
		what string
		s    api.Shelf
		lane int
		plan ints
	}{
		{"S", shelfS(), 1, ints{0, 0, 1}},
		{"T", shelfT(), 0, ints{0}},
		{"T", shelfT(), 1, ints{1}},
		{"the last one", planned(shelfS(), ints{0, 0, 1}), 0, ints{0, 0, 1, 0}},
		{"where no other one finds room", planned(shelfS(), ints{1, 0}), 0, ints{1, 0, 0}},
	} {
		says(t, "Put: "+x.what, fmt.Sprint(shelf.Put(x.s, x.lane)), planned(x.s, x.plan), api.OK)
	}
}

// R2, R4, R6: a call depends on its arguments alone, and changes none of them.
func TestAgain(t *testing.T) {
	for _, s := range []api.Shelf{shelfS(), shelfT(), shelfU(), shelfW()} {
		a := ordinary()
		a.s = with(s, func(s *api.Shelf) { s.Plan = append(make(ints, 0, 5), s.Plan...) })
		before := a.results()
		var group sync.WaitGroup
		for range 4 {
			group.Go(func() {
				for range 20 {
					if again := a.results(); !maps.Equal(again, before) {
						t.Errorf("%v; before %v", again, before)
					}
				}
			})
		}
		group.Wait()
		rest := a.s.Plan[len(a.s.Plan):5]
		if fmt.Sprint(a.s) != fmt.Sprint(s) || slices.Max(append(rest, 0)) != 0 || !slices.Equal(a.hours, ordinary().hours) {
			t.Error("arguments are changed:", a)
		}
	}
}

// R4: no result shares memory with an argument, or another result.
func TestMemory(t *testing.T) {
	s := shelfS()
	a := args{s: s, hours: ints{3, 2}}
	before := a.results()
	room, _ := shelf.Room(s)
	front, _ := shelf.Front(s, 0)
	quiet, _ := shelf.Quiet(s)
	best, _, _ := shelf.Best(s)
	lucky, _, _ := shelf.Lucky(s)
	put, _ := shelf.Put(s, 1)
	for _, l := range []ints{room, front, quiet, best, lucky, put.Lanes, put.Plan} {
		for i := range l {
			l[i] = -7
		}
		_ = append(l, -8)
	}
	put.Bags[0] = bag(-7, -7, -7)
	_ = append(put.Bags, bag(-8, -8, -8))
	if again := a.results(); !maps.Equal(again, before) || !reflect.DeepEqual(s, shelfS()) {
		t.Errorf("%v; before %v", again, before)
	}
}

// P1, R5: whatever the arguments are, a function returns, with zero values beside an error.
func TestAnything(t *testing.T) {
	rng := rand.New(rand.NewPCG(5, 6))
	odd := ints{math.MinInt, -1, 0, 1, 2, 3, 4, 5, 6, 7, 8, 9, 10, math.MaxInt - 1, math.MaxInt}
	some := func() int { return odd[rng.IntN(len(odd))] }
	blank := map[string][]string{} // what a function may say if there is an error
	for e := api.OK + 1; e <= api.ErrClosed; e++ {
		for name, text := range refusals(e) {
			blank[name] = append(blank[name], text)
		}
	}
	for range 10000 {
		a := args{drawn(rng, 3, 2), some(), some(), some(), some(), ints{some(), some()}}
		for range rng.IntN(3) {
			switch rng.IntN(5) {
			case 0:
				a.s.Lanes = append(a.s.Lanes, some())
			case 1:
				a.s.Lanes[0] = some()
			case 2:
				a.s.Bags = append(a.s.Bags, bag(some(), some(), some()))
			case 3:
				a.s.Plan = append(a.s.Plan, some())
			case 4:
				a.s.Bags = append(a.s.Bags, bag(1+rng.IntN(9), rng.IntN(3), 2+rng.IntN(3)))
			}
		}
		for name, text := range a.results() {
			if !strings.HasSuffix(text, fmt.Sprint(api.OK)) && !slices.Contains(blank[name], text) {
				t.Fatalf("%s of %v: %s", name, a, text)
			}
		}
	}
}

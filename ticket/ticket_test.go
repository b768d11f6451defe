package ticket_test

import (
	"math"
	"math/rand/v2"
	"reflect"
	"slices"
	"sync"
	"testing"

	"gladstone/api"
	"gladstone/ticket"
)

type ints = []int

// same returns whether two results are equal; a nil list and an empty one are.
func same(a, b any) bool {
	x, ok := a.([]int)
	y, also := b.([]int)
	if ok && also {
		return slices.Equal(x, y)
	}
	return reflect.DeepEqual(a, b)
}

// want reports a result or an error that is not the wanted one.
func want[T any](t *testing.T, name string, got T, e api.Errno, result T, code api.Errno) {
	t.Helper()
	if !same(got, result) || e != code {
		t.Errorf("%s: %v, %v; want %v, %v", name, got, e, result, code)
	}
}

// call is a call of a function with one result beside the error.
type call struct {
	name string
	call func(r api.Roll) (any, api.Errno)
}

// callsWith returns a call of each function, with these arguments.
func callsWith(hour, a, b, stub int, s api.Seen) []call {
	return []call{
		{"Count", func(r api.Roll) (any, api.Errno) { return boxed(ticket.Count(r)) }},
		{"Given", func(r api.Roll) (any, api.Errno) { return boxed(ticket.Given(r)) }},
		{"Forged", func(r api.Roll) (any, api.Errno) { return boxed(ticket.Forged(r)) }},
		{"First", func(r api.Roll) (any, api.Errno) {
			h, n, p, e := ticket.First(r)
			return truth{h, n, p}, e
		}},
		{"Next", func(r api.Roll) (any, api.Errno) { return boxed(ticket.Next(r, hour)) }},
		{"Busy", func(r api.Roll) (any, api.Errno) { return boxed(ticket.Busy(r, hour)) }},
		{"Numbers", func(r api.Roll) (any, api.Errno) { return boxed(ticket.Numbers(r, a)) }},
		{"Hours", func(r api.Roll) (any, api.Errno) { return boxed(ticket.Hours(r, a)) }},
		{"Before", func(r api.Roll) (any, api.Errno) { return boxed(ticket.Before(r, a, b)) }},
		{"Pair", func(r api.Roll) (any, api.Errno) { return boxed(ticket.Pair(r, stub, a)) }},
		{"Apart", func(r api.Roll) (any, api.Errno) { return boxed(ticket.Apart(r, stub, a)) }},
		{"Add", func(r api.Roll) (any, api.Errno) { return boxed(ticket.Add(r, s)) }},
	}
}

// named returns the calls of these functions.
func named(calls []call, names ...string) []call {
	var l []call
	for _, c := range calls {
		if slices.Contains(names, c.name) {
			l = append(l, c)
		}
	}
	return l
}

// searching returns the names of the functions that need a truth.
func searching() []string {
	return []string{"Next", "Busy", "Numbers", "Hours", "Before", "Pair", "Given", "First"}
}

func boxed[T any](x T, e api.Errno) (any, api.Errno) { return x, e }

// blank returns whether a result is the zero value, but that lists may be empty.
func blank(x any) bool {
	switch x := x.(type) {
	case []int:
		return len(x) == 0
	case truth:
		return len(x.history)+len(x.numbers)+len(x.pieces) == 0
	case api.Roll:
		return x.First == 0 && x.Hours == 0 && x.Per == 0 && len(x.Seen)+len(x.Pieces)+len(x.Stubs) == 0
	}
	return reflect.ValueOf(x).IsZero()
}

// P1.1: the first error of a roll; and all functions return it first, with no result (R1, R3).
func TestCheck(t *testing.T) {
	k := func(change func(r *api.Roll)) api.Roll { return with(rollK(), change) }
	for name, x := range map[string]struct {
		r    api.Roll
		want api.Errno
	}{
		"K":                        {rollK(), api.OK},
		"M":                        {rollM(), api.OK},
		"U":                        {rollU(), api.OK},
		"wide":                     {wide(), api.OK},
		"nothing":                  {api.Roll{}, api.ErrAmount},
		"First -1":                 {k(func(r *api.Roll) { r.First = -1 }), api.ErrAmount},
		"First 0":                  {k(func(r *api.Roll) { r.First = 0 }), api.OK},
		"First 90":                 {k(func(r *api.Roll) { r.First = 90 }), api.OK},
		"First 91":                 {k(func(r *api.Roll) { r.First = 91 }), api.ErrAmount},
		"Hours 0":                  {k(func(r *api.Roll) { r.Hours = 0 }), api.ErrAmount},
		"Hours 1":                  {api.Roll{Hours: 1, Per: 1}, api.OK},
		"Hours 4":                  {k(func(r *api.Roll) { r.Hours = 4 }), api.ErrAmount},
		"Per 0":                    {k(func(r *api.Roll) { r.Per = 0 }), api.ErrAmount},
		"Per 4":                    {k(func(r *api.Roll) { r.Per = 4 }), api.ErrAmount},
		"Seen with Hour 4":         {k(func(r *api.Roll) { r.Seen[0].Hour = 4 }), api.ErrUnknown},
		"Seen with Hour -1":        {k(func(r *api.Roll) { r.Seen[0].Hour = -1 }), api.ErrUnknown},
		"Seen at the end":          {k(func(r *api.Roll) { r.Seen[0] = seen(3, 0, 99) }), api.OK},
		"Seen 13..12":              {k(func(r *api.Roll) { r.Seen[0].Next = band(13, 12) }), api.ErrOrder},
		"Seen -1..12":              {k(func(r *api.Roll) { r.Seen[0].Next = band(-1, 12) }), api.ErrAmount},
		"Seen 100..12":             {k(func(r *api.Roll) { r.Seen[0].Next = band(100, 12) }), api.ErrAmount},
		"Seen 12..100":             {k(func(r *api.Roll) { r.Seen[0].Next = band(12, 100) }), api.ErrAmount},
		"Seen 2..-1":               {k(func(r *api.Roll) { r.Seen[0].Next = band(2, -1) }), api.ErrAmount},
		"piece in the hours 0..3":  {k(func(r *api.Roll) { r.Pieces[0] = half(10, 12, 0, 3) }), api.ErrUnknown},
		"piece in the hours -1..0": {k(func(r *api.Roll) { r.Pieces[0] = half(10, 12, -1, 0) }), api.ErrUnknown},
		"piece in the hours 3..0":  {k(func(r *api.Roll) { r.Pieces[0] = half(10, 12, 3, 0) }), api.ErrUnknown},
		"piece in the hours 1..-1": {k(func(r *api.Roll) { r.Pieces[0] = half(10, 12, 1, -1) }), api.ErrUnknown},
		"piece in the hours 2..1":  {k(func(r *api.Roll) { r.Pieces[0] = half(10, 12, 2, 1) }), api.ErrOrder},
		"piece 5..4":               {k(func(r *api.Roll) { r.Pieces[0] = half(5, 4, 0, 3) }), api.ErrOrder},
		"piece 5..100":             {k(func(r *api.Roll) { r.Pieces[0] = half(5, 100, 2, 1) }), api.ErrAmount},
		"piece -5..-6":             {k(func(r *api.Roll) { r.Pieces[0] = half(-5, -6, 2, 1) }), api.ErrAmount},
		"stub 5..100":              {k(func(r *api.Roll) { r.Stubs[1] = half(5, 100, 9, 1) }), api.ErrAmount},
		"stub 5..4":                {k(func(r *api.Roll) { r.Stubs[1] = half(5, 4, 9, 1) }), api.ErrOrder},
		"stub in the hours 0..3":   {k(func(r *api.Roll) { r.Stubs[1] = half(5, 5, 0, 3) }), api.ErrUnknown},
		"stub in the hours 2..0":   {k(func(r *api.Roll) { r.Stubs[1] = half(5, 5, 2, 0) }), api.ErrOrder},
		"3 Seen":                   {k(func(r *api.Roll) { r.Seen = make([]api.Seen, 3) }), api.OK},
		"4 Seen":                   {k(func(r *api.Roll) { r.Seen = make([]api.Seen, 4) }), api.ErrMany},
		"4 pieces":                 {k(func(r *api.Roll) { r.Pieces = make([]api.Half, 4) }), api.OK},
		"5 pieces":                 {k(func(r *api.Roll) { r.Pieces = make([]api.Half, 5) }), api.ErrMany},
		"3 stubs":                  {k(func(r *api.Roll) { r.Stubs = make([]api.Half, 3) }), api.OK},
		"4 stubs":                  {k(func(r *api.Roll) { r.Stubs = make([]api.Half, 4) }), api.ErrMany},
		"Per before Seen":          {k(func(r *api.Roll) { r.Per, r.Seen = 4, make([]api.Seen, 4) }), api.ErrAmount},
		"too many before an element": {k(func(r *api.Roll) {
			r.Seen = []api.Seen{seen(9, 0, 0), {}, {}, {}}
		}), api.ErrMany},
		"the first Seen": {k(func(r *api.Roll) {
			r.Seen = []api.Seen{seen(0, 5, 4), seen(9, 0, 0)}
		}), api.ErrOrder},
		"Hour before Next":     {k(func(r *api.Roll) { r.Seen = []api.Seen{seen(9, -1, 0)} }), api.ErrUnknown},
		"Seen before pieces":   {k(func(r *api.Roll) { r.Seen[0].Hour, r.Pieces = 9, make([]api.Half, 5) }), api.ErrUnknown},
		"pieces before stubs":  {k(func(r *api.Roll) { r.Pieces[2], r.Stubs = half(2, 1, 0, 0), make([]api.Half, 4) }), api.ErrOrder},
		"the first piece":      {k(func(r *api.Roll) { r.Pieces[0], r.Pieces[1] = half(2, 2, 1, 0), half(-1, 0, 0, 0) }), api.ErrOrder},
		"number before hour":   {k(func(r *api.Roll) { r.Pieces[1] = half(100, 0, 7, 0) }), api.ErrAmount},
		"too many before half": {k(func(r *api.Roll) { r.Pieces = append(make([]api.Half, 4), half(-1, 0, 0, 0)) }), api.ErrMany},
	} {
		if got := ticket.Check(x.r); got != x.want {
			t.Errorf("%s: Check is %v, want %v", name, got, x.want)
		}
		if x.want == api.OK {
			continue
		}
		for _, c := range callsWith(9, 7, 7, 7, seen(9, 9, 0)) {
			if got, e := c.call(x.r); e != x.want || !blank(got) {
				t.Errorf("%s: %s returns %v, %v; want %v", name, c.name, got, e, x.want)
			}
		}
	}
}

// What an argument names must be there; only then it matters whether there is a truth (R1, R3).
func TestUnknown(t *testing.T) {
	for _, r := range []api.Roll{rollK(), rollU()} {
		for name, calls := range map[string][]call{
			"the end":   callsWith(4, 3, 3, 2, seen(4, 12, 12)),
			"before 0":  callsWith(-1, -1, -1, -1, seen(-1, 12, 12)),
			"far":       callsWith(math.MaxInt, math.MaxInt, math.MaxInt, math.MaxInt, seen(math.MaxInt, 12, 12)),
			"very less": callsWith(math.MinInt, math.MinInt, math.MinInt, math.MinInt, seen(math.MinInt, 12, 12)),
		} {
			for _, c := range named(calls, "Next", "Busy", "Numbers", "Hours", "Before", "Pair", "Apart", "Add") {
				if got, e := c.call(r); e != api.ErrUnknown || !blank(got) {
					t.Errorf("%s: %s returns %v, %v", name, c.name, got, e)
				}
			}
		}
		for name, c := range map[string]call{
			"Busy at the end": named(callsWith(3, 0, 1, 0, api.Seen{}), "Busy")[0],
			"Before of b":     named(callsWith(0, 0, 3, 0, api.Seen{}), "Before")[0],
			"Before of a":     named(callsWith(0, 3, 0, 0, api.Seen{}), "Before")[0],
			"Pair of a piece": named(callsWith(0, 3, 0, 0, api.Seen{}), "Pair")[0],
			"Pair of a stub":  named(callsWith(0, 0, 0, 2, api.Seen{}), "Pair")[0],
			"Apart, piece":    named(callsWith(0, 3, 0, 0, api.Seen{}), "Apart")[0],
			"Apart, stub":     named(callsWith(0, 0, 0, 2, api.Seen{}), "Apart")[0],
		} {
			if got, e := c.call(r); e != api.ErrUnknown || !blank(got) {
				t.Errorf("%s: %v, %v", name, got, e)
			}
		}
	}
	for _, r := range []api.Roll{rollK(), rollU()} {
		v, e := ticket.Before(r, 1, 1)
		want(t, "Before of one piece", v, e, 0, api.ErrKind)
	}
}

// Without a truth these functions have nothing to return.
func TestEmpty(t *testing.T) {
	for _, c := range named(callsWith(0, 0, 1, 0, api.Seen{}), append(searching(), "Apart")...) {
		if got, e := c.call(rollU()); e != api.ErrEmpty || !blank(got) {
			t.Errorf("%s: %v, %v", c.name, got, e)
		}
	}
	n, e := ticket.Next(rollU(), 3)
	want(t, "Next of U at the end", n, e, api.Band{}, api.ErrEmpty)
	bare := api.Roll{Hours: 1, Per: 1, Seen: []api.Seen{seen(0, 1, 1)}}
	l, e := ticket.Given(bare)
	want(t, "Given without stubs", l, e, nil, api.ErrEmpty)
	l, e = ticket.Forged(bare)
	want(t, "Forged without stubs", l, e, nil, api.ErrEmpty)
}

// P1.2: Count, Next and Busy, with the chapter's examples.
func TestNext(t *testing.T) {
	for name, x := range map[string]struct {
		r          api.Roll
		count      int
		next, busy []api.Band
	}{
		"K": {rollK(), 4, []api.Band{band(10, 10), band(11, 12), band(13, 13), band(14, 15)}, []api.Band{band(1, 2), band(1, 2), band(1, 2)}},
		"M": {rollM(), 4, []api.Band{band(0, 0), band(0, 3)}, []api.Band{band(0, 3)}},
	} {
		n, e := ticket.Count(x.r)
		want(t, "Count of "+name, n, e, x.count, api.OK)
		for hour, b := range x.next {
			got, e := ticket.Next(x.r, hour)
			want(t, "Next of "+name, got, e, b, api.OK)
		}
		for hour, b := range x.busy {
			got, e := ticket.Busy(x.r, hour)
			want(t, "Busy of "+name, got, e, b, api.OK)
		}
	}
	n, e := ticket.Count(rollU())
	want(t, "Count of U", n, e, 0, api.OK)
	n, e = ticket.Count(wide())
	want(t, "Count of the widest", n, e, 64-20, api.OK) // 20 of them tear fewer than 4 tickets
	b, e := ticket.Next(wide(), 3)
	want(t, "Next of the widest", b, e, band(94, 99), api.OK)
}

// P1.3: Numbers and Hours, with the chapter's examples.
func TestNumbers(t *testing.T) {
	for piece, numbers := range []ints{{12}, {11}, {13, 14}} {
		got, e := ticket.Numbers(rollK(), piece)
		want(t, "Numbers of K", got, e, numbers, api.OK)
	}
	for piece, hours := range []ints{{1}, {0, 1}, {2}} {
		got, e := ticket.Hours(rollK(), piece)
		want(t, "Hours of K", got, e, hours, api.OK)
	}
	got, e := ticket.Numbers(wide(), 3)
	want(t, "Numbers of the widest", got, e, ints{90, 91, 92, 93, 94, 95, 96, 97, 98}, api.OK)
	got, e = ticket.Hours(wide(), 0)
	want(t, "Hours of the widest", got, e, ints{0, 1, 2}, api.OK)
}

// P1.4: Before, with the chapter's examples.
func TestBefore(t *testing.T) {
	v, e := ticket.Before(rollK(), 1, 0)
	want(t, "Before(K; 1, 0)", v, e, api.Always, api.OK)
	v, e = ticket.Before(rollK(), 0, 1)
	want(t, "Before(K; 0, 1)", v, e, api.NoWay, api.OK)
	v, e = ticket.Before(wide(), 0, 1)
	want(t, "Before of the widest", v, e, api.Perhaps, api.OK)
}

// P1.5: Pair and Given, with the chapter's examples.
func TestPair(t *testing.T) {
	for _, x := range []struct{ stub, piece, want int }{
		{0, 0, api.Always}, {0, 1, api.NoWay}, {0, 2, api.NoWay},
		{1, 0, api.NoWay}, {1, 1, api.NoWay}, {1, 2, api.Always},
	} {
		v, e := ticket.Pair(rollK(), x.stub, x.piece)
		want(t, "Pair of K", v, e, x.want, api.OK)
	}
	v, e := ticket.Pair(rollK(), 2, 0)
	want(t, "Pair(K; 2, 0)", v, e, 0, api.ErrUnknown)
	v, e = ticket.Pair(wide(), 2, 3)
	want(t, "Pair of the widest", v, e, api.Perhaps, api.OK)
	l, e := ticket.Given(rollK())
	want(t, "Given(K)", l, e, ints{0, 2}, api.OK)
	l, e = ticket.Given(rollM())
	want(t, "Given(M)", l, e, nil, api.OK)
	l, e = ticket.Given(rollU())
	want(t, "Given(U)", l, e, nil, api.ErrEmpty)
	l, e = ticket.Given(wide())
	want(t, "Given of the widest", l, e, ints{-1, -1, -1}, api.OK)
}

// P1.6: Apart, with the chapter's examples.
func TestApart(t *testing.T) {
	for _, x := range []struct{ stub, piece, want int }{{0, 0, 0}, {0, 2, 0}, {1, 0, 1}, {1, 1, 1}, {1, 2, 0}} {
		n, e := ticket.Apart(rollK(), x.stub, x.piece)
		want(t, "Apart of K", n, e, x.want, api.OK)
	}
	n, e := ticket.Apart(rollU(), 0, 0)
	want(t, "Apart(U; 0, 0), which fits no ticket", n, e, 0, api.ErrEmpty)
	n, e = ticket.Apart(rollU(), 1, 2)
	want(t, "Apart(U; 1, 2), without a truth", n, e, 0, api.ErrEmpty)
	ends := api.Roll{Hours: 3, Per: 3, Pieces: []api.Half{half(0, 0, 0, 0)}, Stubs: []api.Half{half(8, 8, 2, 2)}}
	n, e = ticket.Apart(ends, 0, 0)
	want(t, "Apart from end to end", n, e, 8, api.OK)
}

// P1.7: Forged, with the chapter's examples.
func TestForged(t *testing.T) {
	lone := func(numbers ...int) api.Roll {
		r := api.Roll{Hours: 1, Per: 3, Pieces: []api.Half{half(0, 9, 0, 0), half(0, 9, 0, 0)}}
		for _, n := range numbers {
			r.Stubs = append(r.Stubs, half(n, n, 0, 0))
		}
		return r
	}
	for name, x := range map[string]struct {
		r    api.Roll
		want ints
		e    api.Errno
	}{
		"K":                 {rollK(), nil, api.OK},
		"U":                 {rollU(), ints{0}, api.OK},
		"M":                 {rollM(), nil, api.OK},
		"one of two":        {lone(0, 0), ints{0}, api.OK},
		"too many stubs":    {lone(0, 1, 2), ints{0}, api.OK},
		"the second":        {lone(0, 9), ints{1}, api.OK},
		"the last":          {lone(0, 1, 9), ints{2}, api.OK},
		"the first two":     {lone(8, 9, 0), ints{0, 1}, api.OK},
		"the outer ones":    {lone(8, 0, 9), ints{0, 2}, api.OK},
		"the last two":      {lone(0, 8, 9), ints{1, 2}, api.OK},
		"one number thrice": {lone(1, 1, 1), ints{0, 1}, api.OK},
		"all":               {lone(7, 8, 9), ints{0, 1, 2}, api.OK},
		"no ticket":         {with(lone(0), func(r *api.Roll) { r.Per = 1 }), nil, api.ErrEmpty},
	} {
		got, e := ticket.Forged(x.r)
		want(t, "Forged, "+name, got, e, x.want, x.e)
	}
}

// P1.8: First, with the chapter's examples.
func TestFirst(t *testing.T) {
	for name, x := range map[string]struct {
		r                        api.Roll
		history, numbers, pieces ints
	}{
		"K":      {rollK(), ints{10, 11, 13, 14}, ints{12, 11, 13}, ints{0, 2}},
		"M":      {rollM(), ints{0, 0}, nil, nil},
		"widest": {wide(), ints{90, 90, 91, 94}, ints{90, 91, 92, 93}, ints{0, 1, 2}},
	} {
		h, n, p, e := ticket.First(x.r)
		want(t, "history of "+name, h, e, x.history, api.OK)
		want(t, "numbers of "+name, n, e, x.numbers, api.OK)
		want(t, "pieces of "+name, p, e, x.pieces, api.OK)
	}
}

// P1.9: Add, with the chapter's examples.
func TestAdd(t *testing.T) {
	full := with(rollK(), func(r *api.Roll) { r.Seen = append(r.Seen, seen(0, 0, 99), seen(1, 0, 99)) })
	for name, x := range map[string]struct {
		r     api.Roll
		s     api.Seen
		count int
		e     api.Errno
	}{
		"K, 1: 12..12":          {rollK(), seen(1, 12, 12), 2, api.OK},
		"K, 2: 12..12":          {rollK(), seen(2, 12, 12), 0, api.ErrContrary},
		"K, 5: 1..1":            {rollK(), seen(5, 1, 1), 0, api.ErrUnknown},
		"K, at the end":         {rollK(), seen(3, 15, 99), 2, api.OK},
		"K, 0: 5..4":            {rollK(), seen(0, 5, 4), 0, api.ErrOrder},
		"K, 0: 5..100":          {rollK(), seen(0, 5, 100), 0, api.ErrAmount},
		"no place, and invalid": {full, seen(9, 9, 0), 0, api.ErrMany},
		"no place":              {full, seen(1, 0, 99), 0, api.ErrMany},
		"without a truth":       {rollU(), seen(0, 99, 99), 0, api.OK},
		"M":                     {rollM(), seen(1, 0, 1), 2, api.OK},
	} {
		got, e := ticket.Add(x.r, x.s)
		if e != x.e || e != api.OK && !blank(got) {
			t.Errorf("%s: %v, %v", name, got, e)
		}
		if e != api.OK {
			continue
		}
		wanted := with(x.r, func(r *api.Roll) { r.Seen = append(r.Seen, x.s) })
		if !equal(got, wanted) {
			t.Errorf("%s: %v, want %v", name, got, wanted)
		}
		n, e := ticket.Count(got)
		want(t, "Count of "+name, n, e, x.count, api.OK)
	}
}

// equal returns whether two rolls are the same.
func equal(a, b api.Roll) bool {
	return a.First == b.First && a.Hours == b.Hours && a.Per == b.Per && slices.Equal(a.Seen, b.Seen) && slices.Equal(a.Pieces, b.Pieces) && slices.Equal(a.Stubs, b.Stubs)
}

// R4: arguments are not changed, and no result shares memory with them.
func TestMemory(t *testing.T) {
	r := rollK()
	r.Seen = append(make([]api.Seen, 0, 3), r.Seen...)
	for _, c := range callsWith(1, 0, 1, 0, seen(1, 12, 12)) {
		if c.call(r); !equal(r, rollK()) || r.Seen[:2][1] != (api.Seen{}) {
			t.Errorf("%s changes the roll", c.name)
		}
	}
	added, _ := ticket.Add(r, seen(1, 12, 12))
	added.Seen[0], added.Pieces[0], added.Stubs[0] = api.Seen{}, api.Half{}, api.Half{}
	if !equal(r, rollK()) {
		t.Error("Add's roll shares memory with the argument")
	}
	h, n, p, _ := ticket.First(r)
	for _, l := range []ints{h, n, p} {
		for i := range l {
			l[i] = -7
		}
		_ = append(l, -8)
	}
	again, m, q, e := ticket.First(r)
	want(t, "First again", again, e, ints{10, 11, 13, 14}, api.OK)
	want(t, "First again", m, e, ints{12, 11, 13}, api.OK)
	want(t, "First again", q, e, ints{0, 2}, api.OK)
}

// R2, R6: a call depends on its arguments alone, and not on what runs beside it.
func TestAgain(t *testing.T) {
	r := with(rollK(), func(r *api.Roll) { r.Seen = nil })
	var group sync.WaitGroup
	for _, c := range callsWith(1, 0, 1, 0, seen(1, 12, 12)) {
		before, e := c.call(r)
		for range 4 {
			group.Go(func() {
				for range 20 {
					if got, f := c.call(r); !reflect.DeepEqual(got, before) || f != e {
						t.Errorf("%s: %v, %v; before %v, %v", c.name, got, f, before, e)
					}
				}
			})
		}
	}
	group.Wait()
}

// P1, R5: whatever the arguments are, a function returns.
func TestAnything(t *testing.T) {
	rng := rand.New(rand.NewPCG(5, 6))
	odd := []int{math.MinInt, -1, 0, 1, 2, 3, 4, 89, 90, 91, 98, 99, 100, math.MaxInt - 1, math.MaxInt}
	some := func() int { return odd[rng.IntN(len(odd))] }
	for range 20000 {
		r := drawn(rng)
		for range rng.IntN(3) {
			switch rng.IntN(6) {
			case 0:
				r.First = some()
			case 1:
				r.Hours = some()
			case 2:
				r.Per = some()
			case 3:
				r.Seen = append(r.Seen, seen(some(), some(), some()))
			case 4:
				r.Pieces = append(r.Pieces, half(some(), some(), some(), some()))
			case 5:
				r.Stubs = append(r.Stubs, half(some(), some(), some(), some()))
			}
		}
		for _, c := range callsWith(some(), some(), some(), some(), seen(some(), some(), some())) {
			got, e := c.call(r)
			if e != api.OK && !blank(got) {
				t.Fatalf("%s of %v: %v with %v", c.name, r, got, e)
			}
		}
	}
}

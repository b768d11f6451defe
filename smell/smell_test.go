package smell_test

import (
	"fmt"
	"maps"
	"math"
	"math/rand/v2"
	"reflect"
	"slices"
	"strings"
	"sync"
	"testing"

	"gladstone/api"
	"gladstone/smell"
)

// args are arguments for all functions.
type args struct {
	s                             api.Smell
	from, to, hamper, place, hour int
	nose                          api.Nose
}

// ordinary returns arguments of which none is wrong, and with which no function returns an error.
func ordinary() args { return args{smellS(), 0, 3, 1, 2, 2, nose(0, 3, false)} }

// results returns what each function says, by its name. (A nil list is written as an empty one is.)
func (a args) results() map[string]string {
	return map[string]string{
		"Check":    fmt.Sprint(smell.Check(a.s)),
		"Reach":    fmt.Sprint(smell.Reach(a.s, a.from, a.to)),
		"Count":    fmt.Sprint(smell.Count(a.s)),
		"Suspects": fmt.Sprint(smell.Suspects(a.s)),
		"Since":    fmt.Sprint(smell.Since(a.s, a.hamper)),
		"Verdict":  fmt.Sprint(smell.Verdict(a.s, a.place, a.hour)),
		"Surely":   fmt.Sprint(smell.Surely(a.s, a.hour)),
		"Comes":    fmt.Sprint(smell.Comes(a.s, a.place)),
		"Safe":     fmt.Sprint(smell.Safe(a.s, a.place)),
		"Wrong":    fmt.Sprint(smell.Wrong(a.s)),
		"Sniff":    fmt.Sprint(smell.Sniff(a.s, a.hour)),
		"First":    fmt.Sprint(smell.First(a.s)),
		"Add":      fmt.Sprint(smell.Add(a.s, a.nose)),
	}
}

// refusals returns what each function says with the error: all other results are zero values (R3).
func refusals(e api.Errno) map[string]string {
	none := ints{}
	return map[string]string{
		"Check":    fmt.Sprint(e),
		"Reach":    fmt.Sprint(api.Band{}, e),
		"Count":    fmt.Sprint(0, e),
		"Suspects": fmt.Sprint(none, e),
		"Since":    fmt.Sprint(api.Band{}, e),
		"Verdict":  fmt.Sprint(0, e),
		"Surely":   fmt.Sprint(none, e),
		"Comes":    fmt.Sprint(api.Band{}, e),
		"Safe":     fmt.Sprint(0, e),
		"Wrong":    fmt.Sprint(none, e),
		"Sniff":    fmt.Sprint(0, 0, e),
		"First":    fmt.Sprint(0, 0, none, e),
		"Add":      fmt.Sprint(api.Smell{}, e),
	}
}

// names returns the names of all functions.
func names() []string { return slices.Sorted(maps.Keys(refusals(api.OK))) }

// truthful returns the names of the functions that need a truth that fits.
func truthful() []string {
	return []string{"Suspects", "Since", "Verdict", "Surely", "Comes", "Safe", "Sniff", "First"}
}

// refused reports each of the functions that does not refuse the arguments with the error.
func refused(t *testing.T, what string, a args, e api.Errno, functions ...string) {
	t.Helper()
	got, wanted := a.results(), refusals(e)
	for _, name := range functions {
		if got[name] != wanted[name] {
			t.Errorf("%s: %s: %s; want %s", what, name, got[name], wanted[name])
		}
	}
}

// says reports results that are not the wanted ones; both are written down by fmt.Sprint.
func says(t *testing.T, what, got string, wanted ...any) {
	t.Helper()
	if text := fmt.Sprint(wanted...); got != text {
		t.Errorf("%s: %s; want %s", what, got, text)
	}
}

// oneDoor changes a door, hampers and heard put other hampers and noses, both makes two changes.
func oneDoor(i int, d api.Door) func(s *api.Smell) {
	return func(s *api.Smell) { s.Doors[i] = d }
}

func hampers(l ...int) func(s *api.Smell) { return func(s *api.Smell) { s.Hampers = l } }

func heard(l ...api.Nose) func(s *api.Smell) { return func(s *api.Smell) { s.Noses = l } }

func both(a, b func(s *api.Smell)) func(s *api.Smell) {
	return func(s *api.Smell) { a(s); b(s) }
}

// P9.1: the first error of a smell, which all functions return first (R1, R3).
func TestCheck(t *testing.T) {
	places := func(n int) func(s *api.Smell) { return func(s *api.Smell) { s.Places = n } }
	many := func(n int) func(s *api.Smell) { return func(s *api.Smell) { s.Doors = make(doors, n) } }
	whole := func(s api.Smell) func(*api.Smell) { return func(x *api.Smell) { *x = s } }
	five := heard(make(noses, api.SmellNoses+1)...)
	for _, x := range []struct {
		what   string
		change func(s *api.Smell)
		want   api.Errno
	}{
		{"S", func(s *api.Smell) {}, api.OK},
		{"W", whole(smellW()), api.OK},
		{"nothing", whole(api.Smell{}), api.ErrAmount},
		{"no place", places(0), api.ErrAmount},
		{"places -1", places(-1), api.ErrAmount},
		{"places 7", places(7), api.ErrAmount},
		{"the most places", places(math.MaxInt), api.ErrAmount},
		{"six places", places(6), api.OK},
		{"a place alone", whole(hall(1, nil, ints{0}, nose(0, 12, true), nose(0, 0, false))), api.OK},
		{"three places, a door to the fourth", places(3), api.ErrUnknown},
		{"no place, before seven doors", both(places(0), many(7)), api.ErrAmount},
		{"six doors", func(s *api.Smell) { s.Doors = slices.Repeat(doors{door(3, 2, 1, 4)}, 6) }, api.OK},
		{"seven doors", many(7), api.ErrMany},
		{"seven doors, before what they are", func(s *api.Smell) { s.Doors = slices.Repeat(doors{door(9, 9, 9, 9)}, 7) }, api.ErrMany},
		{"the door 0 from 4", oneDoor(0, door(4, 1, 2, 3)), api.ErrUnknown},
		{"the door 0 from -1", oneDoor(0, door(-1, 1, 2, 3)), api.ErrUnknown},
		{"the door 2 to 4", oneDoor(2, door(0, 4, 2, 3)), api.ErrUnknown},
		{"the door 2 to -1", oneDoor(2, door(0, -1, 2, 3)), api.ErrUnknown},
		{"a door from 4 to 4", oneDoor(0, door(4, 4, 0, 9)), api.ErrUnknown},
		{"a door from 0 to 0", oneDoor(0, door(0, 0, 2, 3)), api.ErrKind},
		{"a door from 3 to 3 before its hours", oneDoor(2, door(3, 3, 5, 0)), api.ErrKind},
		{"takes 0..3", oneDoor(0, door(0, 1, 0, 3)), api.ErrAmount},
		{"takes 2..5", oneDoor(0, door(0, 1, 2, 5)), api.ErrAmount},
		{"takes 5..2", oneDoor(2, door(0, 3, 5, 2)), api.ErrAmount},
		{"takes 2..0", oneDoor(2, door(0, 3, 2, 0)), api.ErrAmount},
		{"takes -1..-2", oneDoor(1, door(0, 3, -1, -2)), api.ErrAmount},
		{"takes 3..2", oneDoor(0, door(0, 1, 3, 2)), api.ErrOrder},
		{"takes 4..1", oneDoor(2, door(3, 0, 4, 1)), api.ErrOrder},
		{"takes 1..4", oneDoor(1, door(3, 0, 1, 4)), api.OK},
		{"takes 4..4", oneDoor(2, door(3, 0, 4, 4)), api.OK},
		{"a door twice", oneDoor(2, door(1, 0, 1, 1)), api.OK},
		{"the door 0 before the door 1", both(oneDoor(0, door(0, 1, 3, 2)), oneDoor(1, door(9, 9, 1, 1))), api.ErrOrder},
		{"the door 1 before the door 2", both(oneDoor(1, door(1, 1, 1, 1)), oneDoor(2, door(9, 0, 1, 1))), api.ErrKind},
		{"doors before hampers", both(oneDoor(2, door(0, 3, 3, 2)), hampers()), api.ErrOrder},
		{"no hamper", hampers(), api.ErrFew},
		{"a hamper", hampers(3), api.OK},
		{"three hampers", hampers(3, 0, 2), api.OK},
		{"four hampers", hampers(0, 1, 2, 3), api.ErrMany},
		{"four hampers, before what they are", hampers(9, 9, 9, 9), api.ErrMany},
		{"hampers 0 4", hampers(0, 4), api.ErrUnknown},
		{"hampers -1 0", hampers(-1, 0), api.ErrUnknown},
		{"hampers 0 0", hampers(0, 0), api.ErrRepeat},
		{"hampers 2 0 2", hampers(2, 0, 2), api.ErrRepeat},
		{"hampers 9 9", hampers(9, 9), api.ErrUnknown},
		{"hampers 1 1 9", hampers(1, 1, 9), api.ErrRepeat},
		{"hampers 1 9 1", hampers(1, 9, 1), api.ErrUnknown},
		{"hampers before noses", both(hampers(0, 0), five), api.ErrRepeat},
		{"no hamper before noses", both(hampers(), five), api.ErrFew},
		{"four noses", heard(make(noses, 4)...), api.OK},
		{"five noses", five, api.ErrMany},
		{"five noses, before what they are", heard(slices.Repeat(noses{nose(9, 99, true)}, 5)...), api.ErrMany},
		{"a nose at 4", heard(nose(4, 1, true)), api.ErrUnknown},
		{"a nose at -1", heard(nose(-1, 1, false)), api.ErrUnknown},
		{"a nose at 4, before its hour", heard(nose(4, 13, false)), api.ErrUnknown},
		{"a nose at the hour 13", heard(nose(1, 13, true)), api.ErrAmount},
		{"a nose at the hour -1", heard(nose(1, -1, false)), api.ErrAmount},
		{"a nose at the last place and hour", heard(nose(3, 12, true)), api.OK},
		{"the nose 0 before the nose 1", heard(nose(0, 13, true), nose(4, 0, true)), api.ErrAmount},
		{"the last one of four noses", heard(append(make(noses, 3), nose(4, 0, true))...), api.ErrUnknown},
		{"a nose twice", heard(nose(0, 1, true), nose(0, 1, true)), api.OK},
		{"noses that say the contrary", heard(nose(0, 1, true), nose(0, 1, false)), api.OK},
	} {
		a := args{with(smellS(), x.change), -1, -1, -1, -1, -1, nose(-1, -1, true)}
		says(t, x.what, fmt.Sprint(smell.Check(a.s)), x.want)
		if x.want != api.OK {
			refused(t, x.what, a, x.want, names()...)
		}
	}
}

// The errors of what else a function is given, in their order (R1, R3).
func TestUnknown(t *testing.T) {
	a := ordinary()
	for name, text := range a.results() {
		if name != "Check" && !strings.HasSuffix(text, fmt.Sprint(" ", api.OK)) {
			t.Errorf("%s of ordinary arguments: %s", name, text)
		}
	}
	refuses := func(what string, change func(a *args), e api.Errno, functions ...string) {
		t.Helper()
		for _, s := range []api.Smell{smellS(), smellW()} { // ErrEmpty, as no truth fits W, is not said before other errors
			b := ordinary()
			b.s = s
			change(&b)
			refused(t, what, b, e, functions...)
		}
	}
	for _, n := range []int{-1, 4, 5, 64, math.MinInt, math.MaxInt} {
		refuses(fmt.Sprint("from ", n), func(a *args) { a.from = n }, api.ErrUnknown, "Reach")
		refuses(fmt.Sprint("to ", n), func(a *args) { a.to = n }, api.ErrUnknown, "Reach")
		refuses(fmt.Sprint("from and to ", n), func(a *args) { a.from, a.to = n, n }, api.ErrUnknown, "Reach")
		refuses(fmt.Sprint("the place ", n), func(a *args) { a.place = n }, api.ErrUnknown, "Verdict", "Comes", "Safe")
		refuses(fmt.Sprint("the place ", n, " before the hour"), func(a *args) { a.place, a.hour = n, 13 }, api.ErrUnknown, "Verdict")
		refuses(fmt.Sprint("a nose at ", n), func(a *args) { a.nose.Place = n }, api.ErrUnknown, "Add")
		refuses(fmt.Sprint("a nose at ", n, " before its hour"), func(a *args) { a.nose = nose(n, 13, true) }, api.ErrUnknown, "Add")
	}
	for _, n := range []int{-1, 2, 3, 64, math.MinInt, math.MaxInt} {
		refuses(fmt.Sprint("the hamper ", n), func(a *args) { a.hamper = n }, api.ErrUnknown, "Since")
	}
	for _, n := range []int{-1, 13, 14, math.MinInt, math.MaxInt} {
		refuses(fmt.Sprint("the hour ", n), func(a *args) { a.hour = n }, api.ErrAmount, "Verdict", "Surely", "Sniff")
		refuses(fmt.Sprint("a nose at the hour ", n), func(a *args) { a.nose.Hour = n }, api.ErrAmount, "Add")
	}
	full := func(n api.Nose) func(a *args) {
		return func(a *args) { a.s, a.nose = also(a.s, a.s.Noses...), n }
	}
	refuses("four noses", full(nose(1, 4, true)), api.ErrMany, "Add")
	refuses("four noses, before what the fifth one is", full(nose(9, 99, true)), api.ErrMany, "Add")
	b := ordinary()
	b.s = smellW()
	refused(t, "W", b, api.ErrEmpty, truthful()...)
	c := args{s: hall(1, nil, ints{0}), from: 0, to: 0, hamper: 0, hour: 3}
	for name, text := range c.results() {
		if name != "Check" && !strings.HasSuffix(text, fmt.Sprint(" ", api.OK)) {
			t.Errorf("%s of a place alone: %s", name, text)
		}
	}
}

// P9.1: Reach.
func TestReach(t *testing.T) {
	shut := with(smellS(), func(s *api.Smell) { s.Doors = slices.Delete(s.Doors, 1, 2) })
	ring := hall(6, doors{door(0, 1, 1, 4), door(1, 2, 1, 4), door(2, 3, 1, 4), door(3, 4, 1, 4), door(4, 5, 1, 4), door(5, 0, 1, 4)}, ints{5})
	row := hall(6, doors{door(4, 5, 4, 4), door(4, 3, 4, 4), door(2, 3, 4, 4), door(2, 1, 4, 4), door(0, 1, 3, 4)}, ints{0})
	twice := hall(2, doors{door(0, 1, 2, 4), door(1, 0, 1, 3)}, ints{0})
	for _, x := range []struct {
		what     string
		s        api.Smell
		from, to int
		want     list
	}{
		{"S", smellS(), 0, 3, some(1, 2)},
		{"S", smellS(), 2, 3, some(4, 6)},
		{"S, back", smellS(), 3, 2, some(4, 6)},
		{"S", smellS(), 0, 1, some(2, 3)},
		{"S, to itself", smellS(), 0, 0, some(0, 0)},
		{"W, of which no truth fits", smellW(), 2, 3, some(4, 6)},
		{"S without the door 1", shut, 0, 2, nothing()},
		{"S without the door 1, back", shut, 2, 0, nothing()},
		{"S without the door 1", shut, 1, 3, some(3, 5)},
		{"S without the door 1, to itself", shut, 2, 2, some(0, 0)},
		{"a ring", ring, 0, 3, some(3, 12)},
		{"a ring", ring, 0, 2, some(2, 8)},
		{"a ring", ring, 1, 0, some(1, 4)},
		{"a row", row, 0, 5, some(19, 20)},
		{"a row", row, 5, 0, some(19, 20)},
		{"two doors", twice, 0, 1, some(1, 3)},
		{"around is sometimes shorter", hall(3, doors{door(0, 1, 1, 4), door(1, 2, 1, 1), door(0, 2, 1, 1)}, ints{0}), 0, 1, some(1, 2)},
		{"around is always shorter", hall(3, doors{door(0, 1, 4, 4), door(1, 2, 1, 1), door(0, 2, 1, 2)}, ints{0}), 0, 1, some(2, 3)},
		{"no doors", hall(2, nil, ints{0}), 0, 1, nothing()},
	} {
		band, e := smell.Reach(x.s, x.from, x.to)
		tellsBand(t, fmt.Sprint("Reach: ", x.what, " ", x.from, " ", x.to), band, e, x.want)
	}
}

// tellsBand reports a band that is not the wanted one.
func tellsBand(t *testing.T, what string, band api.Band, e api.Errno, want list) {
	t.Helper()
	wanted := api.Band{}
	if want.e == api.OK {
		wanted = api.Band{Min: want.numbers[0], Max: want.numbers[1]}
	}
	says(t, what, fmt.Sprint(band, e), wanted, want.e)
}

// lone is a smell of two places without a door, each with a hamper; row one of
// three places in a row, with a hamper at one end.
func lone(l ...api.Nose) api.Smell { return hall(2, nil, ints{1, 0}, l...) }

func row(l ...api.Nose) api.Smell {
	return hall(3, doors{door(0, 1, 1, 4), door(2, 1, 2, 2), door(0, 2, 4, 4)}, ints{0}, l...)
}

// P9.2, P9.4, and First of P9.7.
func TestSuspects(t *testing.T) {
	no := nothing()
	for _, x := range []struct {
		what         string
		s            api.Smell
		count        int
		suspects     list
		since, comes []list
		safe         ints
		first        list
	}{
		{"S", smellS(), 5, some(0, 1), []list{some(2, 2), some(0, 3)},
			[]list{some(2, 7), some(1, 4), some(0, 5), some(4, 9)}, ints{1, 0, -1, 3}, some(0, 2, 2, 1, 2)},
		{"W", smellW(), 0, no, []list{no, no}, []list{no, no, no, no}, nil, no},
		{"S with the nose 0, 3, false", also(smellS(), nose(0, 3, false)), 4, some(1), []list{no, some(0, 3)},
			[]list{some(4, 7), some(1, 4), some(0, 3), some(5, 9)}, ints{3, 0, -1, 4}, some(1, 0, 3, 1, 1)},
		{"S with the nose 0, 2, true", also(smellS(), nose(0, 2, true)), 1, some(0), []list{some(2, 2), no},
			[]list{some(2, 2), some(4, 4), some(5, 5), some(4, 4)}, ints{1, 3, 4, 3}, some(0, 2, 2, 1, 2)},
		{"no doors", lone(), 26, some(0, 1), []list{some(0, 12), some(0, 12)},
			[]list{some(0, 12), some(0, 12)}, ints{-1, -1}, some(0, 0)},
		{"no doors, a whiff", lone(nose(0, 3, true)), 4, some(1), []list{no, some(0, 3)},
			[]list{some(0, 3), no}, ints{-1, 12}, some(1, 0)},
		{"no doors, no whiff until the end", lone(nose(0, 12, false)), 13, some(0), []list{some(0, 12), no},
			[]list{no, some(0, 12)}, ints{12, -1}, some(0, 0)},
		{"no doors, no whiff for a while", lone(nose(0, 11, false), nose(1, 11, false)), 2, some(0, 1), []list{some(12, 12), some(12, 12)},
			[]list{some(12, 12), some(12, 12)}, ints{11, 11}, some(0, 12)},
		{"a row", row(nose(1, 2, false), nose(2, 4, true)), 1, some(0), []list{some(0, 0)},
			[]list{some(0, 0), some(3, 4), some(4, 4)}, ints{-1, 2, 3}, some(0, 0, 3, 2, 4)},
		{"a row, late", row(nose(0, 11, false)), 1, some(0), []list{some(12, 12)},
			[]list{some(12, 12), some(13, 16), some(15, 16)}, ints{11, 12, 12}, some(0, 12, 1, 2, 4)},
	} {
		says(t, "Count of "+x.what, fmt.Sprint(smell.Count(x.s)), x.count, api.OK)
		says(t, "Suspects of "+x.what, fmt.Sprint(smell.Suspects(x.s)), x.suspects.numbers, x.suspects.e)
		for hamper, want := range x.since {
			band, e := smell.Since(x.s, hamper)
			tellsBand(t, fmt.Sprint("Since of ", x.what, " ", hamper), band, e, want)
		}
		for place, want := range x.comes {
			band, e := smell.Comes(x.s, place)
			tellsBand(t, fmt.Sprint("Comes of ", x.what, " ", place), band, e, want)
		}
		for place, want := range x.safe {
			says(t, fmt.Sprint("Safe of ", x.what, " ", place), fmt.Sprint(smell.Safe(x.s, place)), want, api.OK)
		}
		tellsFirst(t, x.what, x.s, x.first)
	}
}

// tellsFirst reports a first truth that is not the wanted one.
func tellsFirst(t *testing.T, what string, s api.Smell, want list) {
	t.Helper()
	text := fmt.Sprint(0, 0, ints{}, want.e)
	if l := want.numbers; want.e == api.OK {
		text = fmt.Sprint(l[0], l[1], l[2:], want.e)
	}
	says(t, "First of "+what, fmt.Sprint(smell.First(s)), text)
}

// P9.3: Verdict and Surely.
func TestVerdict(t *testing.T) {
	yes, no, may := api.Always, api.NoWay, api.Perhaps
	for _, x := range []struct {
		what     string
		s        api.Smell
		hour     int
		verdicts ints
		surely   ints
	}{
		{"S", smellS(), 0, ints{no, no, may, no}, nil},
		{"S", smellS(), 1, ints{no, may, may, no}, nil},
		{"S", smellS(), 3, ints{may, may, may, no}, nil},
		{"S", smellS(), 4, ints{may, yes, may, may}, ints{1}},
		{"S", smellS(), 5, ints{may, yes, yes, may}, ints{1, 2}},
		{"S", smellS(), 7, ints{yes, yes, yes, may}, ints{0, 1, 2}},
		{"S", smellS(), 9, ints{yes, yes, yes, yes}, ints{0, 1, 2, 3}},
		{"S", smellS(), 12, ints{yes, yes, yes, yes}, ints{0, 1, 2, 3}},
		{"no doors", lone(), 12, ints{may, may}, nil},
		{"no doors, a whiff", lone(nose(0, 3, true)), 2, ints{may, no}, nil},
		{"no doors, a whiff", lone(nose(0, 3, true)), 3, ints{yes, no}, ints{0}},
		{"no doors, clean air", lone(nose(0, 12, false)), 11, ints{no, may}, nil},
		{"no doors, clean air", lone(nose(0, 12, false)), 12, ints{no, yes}, ints{1}},
		{"a hamper alone", hall(1, nil, ints{0}), 11, ints{may}, nil},
		{"a hamper alone", hall(1, nil, ints{0}), 12, ints{yes}, ints{0}},
		{"a row", row(nose(0, 0, true)), 3, ints{yes, may, may}, ints{0}},
		{"a row", row(nose(0, 0, true)), 4, ints{yes, yes, yes}, ints{0, 1, 2}},
		{"a row, late", row(nose(0, 11, false)), 12, ints{yes, no, no}, ints{0}},
	} {
		for place, want := range x.verdicts {
			says(t, fmt.Sprint("Verdict: ", x.what, " ", place, " ", x.hour), fmt.Sprint(smell.Verdict(x.s, place, x.hour)), want, api.OK)
		}
		says(t, fmt.Sprint("Surely: ", x.what, " ", x.hour), fmt.Sprint(smell.Surely(x.s, x.hour)), x.surely, api.OK)
	}
}

// P9.5: the noses that must be wrong.
func TestWrong(t *testing.T) {
	for _, x := range []struct {
		what string
		s    api.Smell
		want ints
	}{
		{"S", smellS(), nil},
		{"W", smellW(), ints{0}},
		{"W, the other way round", otherS(nose(2, 1, false), nose(2, 0, true)), ints{0}},
		{"no nose", lone(), nil},
		{"two places at once", lone(nose(0, 3, true), nose(1, 3, true)), ints{0}},
		{"the one against two", lone(nose(0, 3, true), nose(1, 3, true), nose(0, 5, true)), ints{1}},
		{"the last one against three", lone(nose(0, 3, true), nose(0, 4, true), nose(0, 5, true), nose(0, 12, false)), ints{3}},
		{"two of four", lone(nose(0, 3, true), nose(0, 3, false), nose(1, 3, true), nose(1, 3, false)), ints{0, 2}},
		{"the first ones of two against two", lone(nose(0, 3, true), nose(0, 4, true), nose(1, 5, true), nose(1, 6, true)), ints{0, 1}},
		{"fewer before the first ones", lone(nose(0, 3, true), nose(0, 4, true), nose(1, 5, true)), ints{2}},
		{"one that can never be", row(nose(2, 3, true), nose(0, 5, false), nose(1, 9, false)), ints{0}},
		{"sooner than through any door", row(nose(0, 5, false), nose(1, 6, true)), ints{0}},
		{"as soon as through a door", row(nose(0, 4, false), nose(1, 6, true)), nil},
		{"it goes on for ever", hall(1, nil, ints{0}, nose(0, 6, false), nose(0, 5, true), nose(0, 4, false)), ints{0}},
		{"it begins at SmellHour at last", hall(1, nil, ints{0}, nose(0, 12, false)), ints{0}},
		{"a place without a hamper", hall(2, nil, ints{0}, nose(1, 12, true), nose(0, 12, true)), ints{0}},
		{"all four", hall(2, nil, ints{0}, slices.Repeat(noses{nose(1, 12, true)}, 4)...), ints{0, 1, 2, 3}},
	} {
		says(t, "Wrong: "+x.what, fmt.Sprint(smell.Wrong(x.s)), x.want, api.OK)
		count, e := smell.Count(x.s)
		if e != api.OK || (count == 0) != (len(x.want) > 0) {
			t.Error("Count: ", x.what, count, e)
		}
	}
}

// P9.6: where it should be sniffed.
func TestSniff(t *testing.T) {
	for _, x := range []struct {
		what string
		s    api.Smell
		hour int
		want list
	}{
		{"S", smellS(), 2, some(1, 3)},
		{"S", smellS(), 0, some(2, 4)},
		{"no doors", lone(), 12, some(0, 13)},
		{"no doors", lone(), 5, some(0, 20)},
		{"no doors, a whiff", lone(nose(0, 3, true)), 1, some(0, 2)},
		{"no doors, the second place tells more", lone(nose(0, 9, false)), 6, some(1, 9)},
		{"a suspicion alone", lone(nose(0, 0, true)), 5, nothing()},
		{"a hamper alone", hall(1, nil, ints{0}, nose(0, 3, true)), 0, some(0, 3)},
		{"a hamper alone", hall(1, nil, ints{0}, nose(0, 3, true)), 1, some(0, 2)},
		{"a hamper alone, too late", hall(1, nil, ints{0}, nose(0, 3, true)), 3, nothing()},
		{"a hamper alone, too early", hall(1, nil, ints{0}, nose(0, 6, false)), 6, nothing()},
		{"nothing can be told of hours that may be either way", hall(2, doors{door(0, 1, 1, 4)}, ints{0}, nose(0, 0, false), nose(0, 2, true)), 3, nothing()},
		{"of three hours one may be either way", hall(2, doors{door(0, 1, 1, 2)}, ints{0}, nose(0, 0, false), nose(0, 3, true)), 3, some(1, 2)},
	} {
		text := fmt.Sprint(0, 0, x.want.e)
		if l := x.want.numbers; x.want.e == api.OK {
			text = fmt.Sprint(l[0], l[1], x.want.e)
		}
		says(t, fmt.Sprint("Sniff: ", x.what, " ", x.hour), fmt.Sprint(smell.Sniff(x.s, x.hour)), text)
	}
}

// P9.7: Add.
func TestAdd(t *testing.T) {
	three := also(smellS(), nose(0, 3, false))
	for _, x := range []struct {
		what string
		s    api.Smell
		nose api.Nose
		e    api.Errno
	}{
		{"S", smellS(), nose(0, 3, false), api.OK},
		{"S", smellS(), nose(0, 1, true), api.ErrContrary},
		{"S", smellS(), nose(1, 4, false), api.ErrContrary},
		{"S", smellS(), nose(4, 1, true), api.ErrUnknown},
		{"S", smellS(), nose(4, 13, true), api.ErrUnknown},
		{"S", smellS(), nose(0, 13, true), api.ErrAmount},
		{"S, again", smellS(), nose(1, 4, true), api.OK},
		{"W, without a truth before", smellW(), nose(2, 0, false), api.OK},
		{"W, without a truth before", smellW(), nose(0, 0, true), api.OK},
		{"W, what is not valid", smellW(), nose(0, -1, true), api.ErrAmount},
		{"the fourth one", three, nose(3, 5, true), api.OK},
		{"the fourth one is contrary", three, nose(3, 4, true), api.ErrContrary},
		{"the fifth one", also(three, nose(3, 5, true)), nose(3, 5, true), api.ErrMany},
		{"the fifth one is contrary", also(three, nose(3, 5, true)), nose(3, 5, false), api.ErrMany},
		{"the fifth one is not valid", also(three, nose(3, 5, true)), nose(9, 99, false), api.ErrMany},
		{"the first one", lone(), nose(1, 12, true), api.OK},
		{"no hamper there", hall(2, nil, ints{0}), nose(1, 12, true), api.ErrContrary},
	} {
		want := api.Smell{}
		if x.e == api.OK {
			want = also(x.s, x.nose)
		}
		says(t, fmt.Sprint("Add: ", x.what, " ", x.nose), fmt.Sprint(smell.Add(x.s, x.nose)), want, x.e)
	}
	added, _ := smell.Add(smellS(), nose(0, 3, false))
	says(t, "Count of S with 0, 3, false", fmt.Sprint(smell.Count(added)), 4, api.OK)
}

// tellsAll reports what is not said of the smell as it should be.
func tellsAll(t *testing.T, what string, s api.Smell, x said) {
	t.Helper()
	says(t, "Count"+what, fmt.Sprint(smell.Count(s)), x.count, api.OK)
	says(t, "Suspects"+what, fmt.Sprint(smell.Suspects(s)), x.suspects.numbers, x.suspects.e)
	says(t, "Wrong"+what, fmt.Sprint(smell.Wrong(s)), x.wrong, api.OK)
	tellsFirst(t, what, s, x.first)
	for hamper, want := range x.since {
		band, e := smell.Since(s, hamper)
		tellsBand(t, fmt.Sprint("Since", what, " ", hamper), band, e, want)
	}
	for place, want := range x.comes {
		band, e := smell.Comes(s, place)
		tellsBand(t, fmt.Sprint("Comes", what, " ", place), band, e, want)
	}
	for from, l := range x.reach {
		for to, want := range l {
			band, e := smell.Reach(s, from, to)
			tellsBand(t, fmt.Sprint("Reach", what, " ", from, " ", to), band, e, want)
		}
	}
	if x.count == 0 {
		refused(t, what, args{s: s}, api.ErrEmpty, truthful()...)
		return
	}
	for hour, want := range x.sniff {
		text := fmt.Sprint(0, 0, want.e)
		if want.e == api.OK {
			text = fmt.Sprint(want.numbers[0], want.numbers[1], want.e)
		}
		says(t, fmt.Sprint("Sniff", what, " ", hour), fmt.Sprint(smell.Sniff(s, hour)), text)
		var surely ints
		for place, verdicts := range x.verdicts {
			if verdicts[hour] == api.Always {
				surely = append(surely, place)
			}
			says(t, fmt.Sprint("Verdict", what, " ", place, " ", hour), fmt.Sprint(smell.Verdict(s, place, hour)), verdicts[hour], api.OK)
		}
		says(t, fmt.Sprint("Surely", what, " ", hour), fmt.Sprint(smell.Surely(s, hour)), surely, api.OK)
	}
	for place, want := range x.safe {
		says(t, fmt.Sprint("Safe", what, " ", place), fmt.Sprint(smell.Safe(s, place)), want, api.OK)
	}
}

// largest returns arguments of the largest size.
func largest() args {
	var l doors
	for n := range api.SmellDoors {
		l = append(l, door(n, (n+1)%api.SmellPlaces, 1, 4))
	}
	s := hall(6, l, ints{4, 0, 1}, nose(2, 7, true), nose(4, 3, false), nose(5, 9, true))
	return args{s, 5, 2, 2, 3, 8, nose(0, 2, false)}
}

// R2, R4, R6: a call depends on its arguments alone, and changes none of them.
func TestAgain(t *testing.T) {
	for _, x := range []args{ordinary(), largest()} {
		a := x
		a.s.Doors, a.s.Hampers, a.s.Noses = roomy(x.s.Doors), roomy(x.s.Hampers), roomy(x.s.Noses)
		before := a.results()
		var group sync.WaitGroup
		for range 4 {
			group.Go(func() {
				for range 5 {
					if again := a.results(); !maps.Equal(again, before) {
						t.Errorf("%v; before %v", again, before)
					}
				}
			})
		}
		group.Wait()
		if !reflect.DeepEqual(a, x) {
			t.Error("arguments are changed:", a)
		}
		if !bare(a.s.Doors) || !bare(a.s.Hampers) || !bare(a.s.Noses) {
			t.Error("what is behind arguments is changed:", a)
		}
	}
}

// roomy returns a copy of the list with room behind it; bare returns whether there is nothing in this.
func roomy[T any](l []T) []T { return append(make([]T, 0, 8), l...) }

func bare[T any](l []T) bool {
	return all(l[len(l):8], func(x T) bool { return reflect.ValueOf(x).IsZero() })
}

// R4: no result shares memory with an argument, or another result.
func TestMemory(t *testing.T) {
	a := ordinary()
	a.s.Doors, a.s.Hampers, a.s.Noses = roomy(a.s.Doors), roomy(a.s.Hampers), roomy(a.s.Noses)
	before := a.results()
	var lists []ints
	keep := func(l ints, e api.Errno) {
		if e != api.OK || len(l) == 0 {
			t.Error("nothing to look at:", l, e)
		}
		lists = append(lists, l)
	}
	for range 2 {
		keep(smell.Suspects(a.s))
		keep(smell.Surely(a.s, 5))
		keep(smell.Wrong(smellW()))
		_, _, takes, e := smell.First(a.s)
		keep(takes, e)
		added, e := smell.Add(a.s, a.nose)
		keep(added.Hampers, e)
		clear(added.Doors)
		clear(added.Noses)
		_, _ = append(added.Doors, door(-9, -9, -9, -9)), append(added.Noses, nose(-9, -9, true))
	}
	for i, l := range lists {
		for k := range l {
			l[k] = -10 - i
		}
		_ = append(l, -9)
	}
	for i, l := range lists {
		if slices.Min(l) != -10-i || slices.Max(l) != -10-i {
			t.Error("results share memory:", lists)
		}
	}
	if again := a.results(); !maps.Equal(again, before) || !bare(a.s.Doors) || !bare(a.s.Hampers) || !bare(a.s.Noses) {
		t.Errorf("%v; before %v", again, before)
	}
}

// R4: a nil slice and an empty one mean the same.
func TestNothing(t *testing.T) {
	for _, x := range [][2]args{
		{{s: hall(2, nil, ints{1})}, {s: hall(2, doors{}, ints{1}, noses{}...)}},
		{{s: hall(2, nil, nil)}, {s: hall(2, doors{}, ints{}, noses{}...)}},
		{{s: api.Smell{}}, {s: api.Smell{Doors: doors{}, Hampers: ints{}, Noses: noses{}}}},
	} {
		x[1].s.Noses = noses{}
		if a, b := x[0].results(), x[1].results(); !maps.Equal(a, b) {
			t.Error(a, b)
		}
	}
}

// P1, R5: whatever the arguments are, a function returns, with zero values beside an error.
func TestAnything(t *testing.T) {
	rng := rand.New(rand.NewPCG(9, 9))
	odd := ints{math.MinInt, math.MinInt + 1, -3, -2, -1, 0, 1, 2, 3, 4, 5, 6, 12, 13, 64, 1 << 32, math.MaxInt - 1, math.MaxInt}
	some := func() int { return odd[rng.IntN(len(odd))] }
	blank := map[string][]string{} // what a function may say if there is an error
	for e := api.OK + 1; e <= api.ErrClosed; e++ {
		for name, text := range refusals(e) {
			blank[name] = append(blank[name], text)
		}
	}
	sniffed := func() api.Nose { return nose(some(), some(), rng.IntN(2) == 0) }
	change := func(s *api.Smell) {
		switch rng.IntN(8) {
		case 0:
			s.Places = some()
		case 1:
			s.Doors = append(s.Doors, door(some(), some(), some(), some()))
		case 2, 3:
			if len(s.Doors) > 0 {
				d := &s.Doors[rng.IntN(len(s.Doors))]
				*[]*int{&d.A, &d.B, &d.Takes.Min, &d.Takes.Max}[rng.IntN(4)] = some()
			}
		case 4:
			s.Hampers = append(s.Hampers[rng.IntN(len(s.Hampers)+1):], some())
		case 5:
			s.Hampers[rng.IntN(len(s.Hampers))] = some()
		case 6:
			s.Noses = append(s.Noses, sniffed())
		}
	}
	for range 6000 {
		a := args{with(drawn(rng), change), some(), some(), some(), some(), some(), sniffed()}
		for name, text := range a.results() {
			if !strings.HasSuffix(text, fmt.Sprint(api.OK)) && !slices.Contains(blank[name], text) {
				t.Fatalf("%s of %v: %s", name, a, text)
			}
		}
	}
	const most = 1 << 20
	for what, s := range map[string]api.Smell{
		"doors":   hall(2, make(doors, most), ints{0}),
		"hampers": hall(2, nil, make(ints, most)),
		"noses":   hall(2, nil, ints{0}, make(noses, most)...),
	} {
		refused(t, "a long list of "+what, args{s: s}, api.ErrMany, names()...)
	}
}

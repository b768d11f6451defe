package key_test

import (
	"fmt"
	"maps"
	"math"
	"math/rand/v2"
	"reflect"
	"slices"
	"strings"
	"sync"
	"testing"

	"gladstone/api"
	"gladstone/key"
)

// args are arguments for all functions.
type args struct {
	r               api.Ring
	key, lock, wear int
	locks           ints
	turns           turns
	try             api.Try
}

// ordinary returns arguments of which none is wrong, and with which no function
// returns an error. The key 2 is worn or not, and opens the lock 1 if it is.
func ordinary() args {
	r := api.Ring{
		Cuts:  1,
		Keys:  []api.Key{of(0, 0, 2), of(0, 0, 1), of(0, 1, 2)},
		Locks: []bands{lock(1, 2), lock(1, 1)},
		Tries: tries{tried(0, 0, true)},
	}
	return args{r, 2, 1, 1, ints{0}, turns{turned(0, false)}, tried(2, 1, true)}
}

// results returns what each function says, by its name. (A nil list is written as an empty one is.)
func (a args) results() map[string]string {
	return map[string]string{
		"Check":  fmt.Sprint(key.Check(a.r)),
		"Worn":   fmt.Sprint(key.Worn(a.r, a.key, a.wear)),
		"Opens":  fmt.Sprint(key.Opens(a.r, a.key, a.lock)),
		"Count":  fmt.Sprint(key.Count(a.r)),
		"Wears":  fmt.Sprint(key.Wears(a.r, a.key)),
		"Wrong":  fmt.Sprint(key.Wrong(a.r)),
		"Ask":    fmt.Sprint(key.Ask(a.r)),
		"Cover":  fmt.Sprint(key.Cover(a.r)),
		"Alike":  fmt.Sprint(key.Alike(a.r)),
		"Tell":   fmt.Sprint(key.Tell(a.r)),
		"Which":  fmt.Sprint(key.Which(a.r, a.turns)),
		"Cut":    fmt.Sprint(key.Cut(a.r, a.locks)),
		"Master": fmt.Sprint(key.Master(a.r)),
		"Add":    fmt.Sprint(key.Add(a.r, a.try)),
	}
}

// refusals returns what each function says with the error: all other results are zero values (R3).
func refusals(e api.Errno) map[string]string {
	none := ints{}
	return map[string]string{
		"Check":  fmt.Sprint(e),
		"Worn":   fmt.Sprint(none, e),
		"Opens":  fmt.Sprint(0, e),
		"Count":  fmt.Sprint(0, e),
		"Wears":  fmt.Sprint(none, e),
		"Wrong":  fmt.Sprint(none, e),
		"Ask":    fmt.Sprint(0, 0, 0, e),
		"Cover":  fmt.Sprint(none, e),
		"Alike":  fmt.Sprint(none, e),
		"Tell":   fmt.Sprint(none, e),
		"Which":  fmt.Sprint(none, e),
		"Cut":    fmt.Sprint(none, e),
		"Master": fmt.Sprint(none, 0, e),
		"Add":    fmt.Sprint(api.Ring{}, e),
	}
}

// names returns the names of all functions.
func names() []string { return slices.Sorted(maps.Keys(refusals(api.OK))) }

// refused reports each of the functions that does not refuse the arguments with the error.
func refused(t *testing.T, what string, a args, e api.Errno, functions ...string) {
	t.Helper()
	got, wanted := a.results(), refusals(e)
	for _, name := range functions {
		if got[name] != wanted[name] {
			t.Errorf("%s: %s: %s; want %s", what, name, got[name], wanted[name])
		}
	}
}

// says reports results that are not the wanted ones; both are written down by fmt.Sprint.
func says(t *testing.T, what, got string, wanted ...any) {
	t.Helper()
	if text := fmt.Sprint(wanted...); got != text {
		t.Errorf("%s: %s; want %s", what, got, text)
	}
}

// cuts changes the number of cuts, oneKey and oneLock change a key and a lock, also puts other tries.
func cuts(n int) func(r *api.Ring) { return func(r *api.Ring) { r.Cuts = n } }

func oneKey(i int, k api.Key) func(r *api.Ring) { return func(r *api.Ring) { r.Keys[i] = k } }

func oneLock(i int, l ...int) func(r *api.Ring) {
	return func(r *api.Ring) { r.Locks[i] = lock(l...) }
}

func also(l ...api.Try) func(r *api.Ring) { return func(r *api.Ring) { r.Tries = l } }

// both makes two changes.
func both(a, b func(r *api.Ring)) func(r *api.Ring) {
	return func(r *api.Ring) { a(r); b(r) }
}

// P8.1: the first error of a ring, which all functions return first (R1, R3).
func TestCheck(t *testing.T) {
	keys := func(n int) func(r *api.Ring) { return func(r *api.Ring) { r.Keys = make([]api.Key, n) } }
	locks := func(n int) func(r *api.Ring) { return func(r *api.Ring) { r.Locks = make([]bands, n) } }
	whole := func(r api.Ring) func(*api.Ring) { return func(x *api.Ring) { *x = r } }
	long := also(make(tries, api.KeyTries+1)...)
	for _, x := range []struct {
		what   string
		change func(r *api.Ring)
		want   api.Errno
	}{
		{"R", func(r *api.Ring) {}, api.OK},
		{"S", whole(ringS()), api.OK},
		{"U", whole(ringU()), api.OK},
		{"nothing", whole(api.Ring{}), api.ErrAmount},
		{"no cut", cuts(0), api.ErrAmount},
		{"cuts -1", cuts(-1), api.ErrAmount},
		{"cuts 5", whole(api.Ring{Cuts: 5}), api.ErrAmount},
		{"the most cuts", whole(api.Ring{Cuts: math.MaxInt}), api.ErrAmount},
		{"a cut alone", whole(api.Ring{Cuts: 1}), api.OK},
		{"four cuts", whole(api.Ring{Cuts: 4, Keys: []api.Key{of(0, 2, 0, 1, 2, 3)}, Locks: []bands{lock(0, 3, 0, 0, 3, 3, 1, 2)}}), api.OK},
		{"cuts 1, keys of 2", cuts(1), api.ErrMany},
		{"cuts 3, keys of 2", cuts(3), api.ErrFew},
		{"no cut, before five keys", both(cuts(0), keys(5)), api.ErrAmount},
		{"four keys", whole(api.Ring{Cuts: 1, Keys: []api.Key{of(0, 0, 0), of(1, 1, 3), of(2, 2, 1), of(0, 2, 2)}}), api.OK},
		{"five keys", keys(5), api.ErrMany},
		{"four keys without cuts", keys(4), api.ErrFew},
		{"the key 0: 3", oneKey(0, of(0, 1, 3)), api.ErrFew},
		{"the key 2 without cuts", oneKey(2, of(0, 1)), api.ErrFew},
		{"the key 0: 3 1 0", oneKey(0, of(0, 1, 3, 1, 0)), api.ErrMany},
		{"the key 2: 3 1 0", oneKey(2, of(0, 1, 3, 1, 0)), api.ErrMany},
		{"the key 0: 9, its length first", oneKey(0, of(3, 2, 9)), api.ErrFew},
		{"the key 0: 9 9 9, its length first", oneKey(0, of(3, 2, 9, 9, 9)), api.ErrMany},
		{"the key 0: 3 4", oneKey(0, of(0, 1, 3, 4)), api.ErrAmount},
		{"the key 0: 4 3", oneKey(0, of(0, 1, 4, 3)), api.ErrAmount},
		{"the key 0: -1 3", oneKey(0, of(0, 1, -1, 3)), api.ErrAmount},
		{"the key 2: 3 -1", oneKey(2, of(0, 1, 3, -1)), api.ErrAmount},
		{"the key 0: 0 3", oneKey(0, of(0, 1, 0, 3)), api.OK},
		{"the depths before wear", oneKey(0, of(2, 1, 0, 4)), api.ErrAmount},
		{"wear -1..0", oneKey(0, of(-1, 0, 0, 0)), api.ErrAmount},
		{"wear 0..-1", oneKey(0, of(0, -1, 0, 0)), api.ErrAmount},
		{"wear 0..3", oneKey(0, of(0, 3, 0, 0)), api.ErrAmount},
		{"wear 3..2", oneKey(0, of(3, 2, 0, 0)), api.ErrAmount},
		{"wear 2..2", oneKey(0, of(2, 2, 0, 0)), api.OK},
		{"wear 2..1", oneKey(0, of(2, 1, 3, 1)), api.ErrOrder},
		{"wear 1..0", oneKey(2, of(1, 0, 3, 1)), api.ErrOrder},
		{"the key 0 before the key 1", both(oneKey(0, of(2, 1, 0, 0)), oneKey(1, of(0, 0))), api.ErrOrder},
		{"the key 1 before the key 2", both(oneKey(1, of(0, 0)), oneKey(2, of(2, 1, 0, 0))), api.ErrFew},
		{"keys before five locks", both(oneKey(2, of(2, 1, 0, 0)), locks(5)), api.ErrOrder},
		{"four locks", whole(api.Ring{Cuts: 1, Locks: []bands{lock(0, 3), lock(0, 0), lock(3, 3), lock(1, 2)}}), api.OK},
		{"five locks", locks(5), api.ErrMany},
		{"four locks without bands", locks(4), api.ErrFew},
		{"the lock 0: 2..3", oneLock(0, 2, 3), api.ErrFew},
		{"the lock 2 without bands", oneLock(2), api.ErrFew},
		{"the lock 0: three bands", oneLock(0, 2, 3, 0, 1, 0, 0), api.ErrMany},
		{"the lock 2: three bands", oneLock(2, 2, 3, 0, 1, 0, 0), api.ErrMany},
		{"the lock 0: 9..9, its length first", oneLock(0, 9, 9), api.ErrFew},
		{"the lock 0: 1..0 three times, its length first", oneLock(0, 1, 0, 1, 0, 1, 0), api.ErrMany},
		{"the lock 0: -1..3", oneLock(0, -1, 3, 0, 1), api.ErrAmount},
		{"the lock 0: 0..4", oneLock(0, 0, 4, 0, 1), api.ErrAmount},
		{"the lock 2: 0..4 behind", oneLock(2, 0, 1, 0, 4), api.ErrAmount},
		{"the lock 2: 4..0 behind", oneLock(2, 0, 1, 4, 0), api.ErrAmount},
		{"the lock 2: 0..-1 behind", oneLock(2, 0, 1, 0, -1), api.ErrAmount},
		{"the lock 0: 1..0", oneLock(0, 1, 0, 0, 0), api.ErrOrder},
		{"the lock 0: 3..2 behind", oneLock(0, 0, 0, 3, 2), api.ErrOrder},
		{"the band 0 before the band 1", oneLock(0, 1, 0, 0, 4), api.ErrOrder},
		{"the band 0 before the band 1", oneLock(0, 0, 4, 1, 0), api.ErrAmount},
		{"the lock 0 before the lock 1", both(oneLock(0, 1, 0, 0, 0), oneLock(1)), api.ErrOrder},
		{"the lock 1 before the lock 2", both(oneLock(1), oneLock(2, 1, 0, 0, 0)), api.ErrFew},
		{"locks before seven tries", both(oneLock(2, 0, 0, 1, 0), long), api.ErrOrder},
		{"six tries", also(make(tries, api.KeyTries)...), api.OK},
		{"seven tries", long, api.ErrMany},
		{"seven tries, before what they are", also(slices.Repeat(tries{{Key: 9, Lock: 9}}, 7)...), api.ErrMany},
		{"a try of the key 3", also(tried(3, 0, true)), api.ErrUnknown},
		{"a try of the key -1", also(tried(-1, 0, true)), api.ErrUnknown},
		{"a try in the lock 3", also(tried(0, 3, false)), api.ErrUnknown},
		{"a try in the lock -1", also(tried(0, -1, false)), api.ErrUnknown},
		{"a try of the last key in the last lock", also(tried(2, 2, false)), api.OK},
		{"the last one of six tries", also(append(make(tries, 5), tried(0, 3, false))...), api.ErrUnknown},
		{"a try of a key without a lock", whole(api.Ring{Cuts: 1, Keys: []api.Key{of(0, 0, 0)}, Tries: make(tries, 1)}), api.ErrUnknown},
		{"a try in a lock without a key", whole(api.Ring{Cuts: 1, Locks: []bands{lock(0, 0)}, Tries: make(tries, 1)}), api.ErrUnknown},
	} {
		a := args{with(ringR(), x.change), -1, -1, -1, ints{9, 9}, make(turns, 9), tried(9, 9, true)}
		says(t, x.what, fmt.Sprint(key.Check(a.r)), x.want)
		if x.want != api.OK {
			refused(t, x.what, a, x.want, names()...)
		}
	}
}

// The errors of what else a function is given, in their order (R1, R3).
func TestUnknown(t *testing.T) {
	a := ordinary()
	for name, text := range a.results() {
		if name != "Check" && !strings.HasSuffix(text, fmt.Sprint(" ", api.OK)) {
			t.Errorf("%s of ordinary arguments: %s", name, text)
		}
	}
	refuses := func(what string, change func(a *args), e api.Errno, functions ...string) {
		t.Helper()
		for _, lie := range []bool{false, true} {
			b := ordinary()
			change(&b)
			if lie { // ErrEmpty, as there is no truth then, is not said before other errors
				b.r.Tries = longer(b.r.Tries, tried(0, 0, false))
			}
			refused(t, fmt.Sprint(what, " ", lie), b, e, functions...)
		}
	}
	for _, n := range []int{-1, 3, 4, math.MinInt, math.MaxInt} {
		refuses(fmt.Sprint("the key ", n), func(a *args) { a.key = n }, api.ErrUnknown, "Worn", "Opens", "Wears")
		refuses(fmt.Sprint("the key ", n, " before others"), func(a *args) { a.key, a.lock, a.wear = n, 2, 9 }, api.ErrUnknown, "Worn", "Opens", "Wears")
		refuses(fmt.Sprint("a turn of ", n), func(a *args) { a.turns = turns{turned(n, true)} }, api.ErrUnknown, "Which")
		refuses(fmt.Sprint("the last turn of ", n), func(a *args) { a.turns = append(make(turns, 5), turned(n, false)) }, api.ErrUnknown, "Which")
		refuses(fmt.Sprint("too many turns before ", n), func(a *args) { a.turns = slices.Repeat(turns{turned(n, false)}, 7) }, api.ErrMany, "Which")
		refuses(fmt.Sprint("a try of ", n), func(a *args) { a.try.Key = n }, api.ErrUnknown, "Add")
	}
	for _, n := range []int{-1, 2, 3, 4, math.MinInt, math.MaxInt} {
		refuses(fmt.Sprint("the lock ", n), func(a *args) { a.lock = n }, api.ErrUnknown, "Opens")
		refuses(fmt.Sprint("a cut for ", n), func(a *args) { a.locks = ints{n} }, api.ErrUnknown, "Cut")
		refuses(fmt.Sprint("a cut for 0 and ", n), func(a *args) { a.locks = ints{0, n, 0} }, api.ErrUnknown, "Cut")
		refuses(fmt.Sprint("a cut for 0 twice, and ", n), func(a *args) { a.locks = ints{0, 0, n} }, api.ErrRepeat, "Cut")
		refuses(fmt.Sprint("a cut for ", n, " twice"), func(a *args) { a.locks = ints{n, n} }, api.ErrUnknown, "Cut")
		refuses(fmt.Sprint("a try in ", n), func(a *args) { a.try.Lock = n }, api.ErrUnknown, "Add")
	}
	for _, n := range []int{-1, 3, math.MinInt, math.MaxInt} {
		refuses(fmt.Sprint("wear ", n), func(a *args) { a.wear = n }, api.ErrAmount, "Worn")
	}
	refuses("a cut for 1 twice", func(a *args) { a.locks = ints{1, 0, 1} }, api.ErrRepeat, "Cut")
	refuses("seven turns", func(a *args) { a.turns = make(turns, 7) }, api.ErrMany, "Which")
	full := func(a *args) { a.r.Tries = slices.Repeat(tries{tried(0, 0, true)}, 6) }
	b := ordinary()
	full(&b)
	refused(t, "six tries", b, api.ErrMany, "Add")
	b.try = tried(9, 9, true)
	refused(t, "six tries, before what the seventh one is", b, api.ErrMany, "Add")
	c := ordinary()
	c.r.Tries = tries{tried(0, 1, true)}
	refused(t, "no truth", c, api.ErrEmpty, "Opens", "Wears", "Ask", "Cover", "Alike", "Tell", "Which")
	none := args{r: api.Ring{Cuts: 1}, locks: ints{0}, turns: make(turns, 1)}
	refused(t, "no key, no lock", none, api.ErrUnknown, "Worn", "Opens", "Wears", "Which", "Cut", "Add")
}

// P8.1: Worn.
func TestWorn(t *testing.T) {
	four := api.Ring{Cuts: 4, Keys: []api.Key{of(1, 1, 0, 1, 2, 3)}}
	for _, x := range []struct {
		what      string
		r         api.Ring
		key, wear int
		want      ints
		e         api.Errno
	}{
		{"R", ringR(), 0, 0, ints{3, 1}, api.OK},
		{"R", ringR(), 0, 1, ints{2, 0}, api.OK},
		{"R, more than it is", ringR(), 0, 2, ints{1, 0}, api.OK},
		{"R, more than it is", ringR(), 1, 2, ints{0, 0}, api.OK},
		{"R", ringR(), 2, 2, ints{0, 1}, api.OK},
		{"R", ringR(), 2, 3, nil, api.ErrAmount},
		{"U, without a truth", ringU(), 1, 1, ints{1, 1}, api.OK},
		{"four cuts, less than it is", four, 0, 0, ints{0, 1, 2, 3}, api.OK},
		{"four cuts", four, 0, 1, ints{0, 0, 1, 2}, api.OK},
		{"four cuts", four, 0, 2, ints{0, 0, 0, 1}, api.OK},
	} {
		says(t, fmt.Sprint("Worn: ", x.what, " ", x.key, " ", x.wear), fmt.Sprint(key.Worn(x.r, x.key, x.wear)), x.want, x.e)
	}
}

// simple returns a ring of one cut without tries.
func simple(keys []api.Key, locks ...bands) api.Ring {
	return api.Ring{Cuts: 1, Keys: keys, Locks: locks}
}

// P8.2 to P8.6, and Master of P8.8.
func TestTruths(t *testing.T) {
	yes, no, may := api.Always, api.NoWay, api.Perhaps
	for _, x := range []struct {
		what string
		r    api.Ring
		told
	}{
		{"R", ringR(), told{6, rows{{yes, no, no}, {no, yes, no}, {no, no, may}}, rows{{0, 1}, {0}, {0, 1, 2}}, nil,
			some(2, 2, 4), nothing(), ints{0, 1, 2}, some(0, 1), nothing(), 0}},
		{"S", ringS(), told{4, rows{{yes, no, no}, {no, yes, no}, {no, no, yes}}, rows{{0, 1}, {0}, {0, 1}}, nil,
			nothing(), some(0, 1, 2), ints{0, 1, 2}, some(0, 1), nothing(), 0}},
		{"U", ringU(), told{0, nil, nil, ints{0}, nothing(), nothing(), nil, nothing(), nothing(), 0}},
		{"One", ringOne(), told{1, rows{{no, yes, no}}, rows{{0}}, nil,
			nothing(), nothing(), ints{0, 1, 0}, nothing(), nothing(), 0}},
		{"Two", ringTwo(), told{6, rows{{yes, no}, {no, yes}, {no, no}}, rows{{0, 1}, {0}, {0, 1, 2}}, nil,
			nothing(), some(0, 1), ints{0, 1}, some(0), some(2, 1), 0}},
		{"ordinary", ordinary().r, told{2, rows{{yes, no}, {yes, yes}, {yes, may}}, rows{{0}, {0}, {0, 1}}, nil,
			some(2, 1, 1), some(1), ints{0, 1}, some(0), some(1), 0}},
		{"nothing", api.Ring{Cuts: 3}, told{1, nil, nil, nil, nothing(), some(), nil, some(), some(0, 0, 0), 2}},
		{"keys alone", simple([]api.Key{of(0, 2, 1), of(1, 2, 3)}), told{6, rows{{}, {}}, rows{{0, 1, 2}, {1, 2}}, nil,
			nothing(), some(), nil, some(), some(0), 2}},
		{"a lock alone", simple(nil, lock(1, 3)), told{1, nil, nil, nil, nothing(), nothing(), ints{0}, some(), some(3), 2}},
		{"two locks alone", simple(nil, lock(1, 3), lock(0, 2)), told{1, nil, nil, nil,
			nothing(), nothing(), ints{0, 0}, nothing(), some(2), 1}},
		{"least wear", simple([]api.Key{of(1, 2, 2)}, lock(2, 3), lock(0, 1)), told{2, rows{{no, yes}}, rows{{1, 2}}, nil,
			nothing(), nothing(), ints{0, 1}, some(0), nothing(), 0}},
		{"worn to 0", simple([]api.Key{of(1, 2, 1)}, lock(0, 0)), told{2, rows{{yes}}, rows{{1, 2}}, nil,
			nothing(), some(0), ints{0}, some(), some(0), 2}},
	} {
		tellsAll(t, " of "+x.what, x.r, x.told)
	}
}

// P8.3: the tries that must be told wrong.
func TestWrong(t *testing.T) {
	keys := []api.Key{of(0, 2, 2), of(0, 1, 1)}
	locks := []bands{lock(2, 3), lock(0, 1), lock(0, 0)}
	for _, x := range []struct {
		what  string
		tries tries
		want  ints
	}{
		{"none", nil, nil},
		{"true", tries{tried(0, 0, true), tried(0, 1, false), tried(1, 2, true)}, nil},
		{"the first one of two", tries{tried(0, 0, true), tried(0, 0, false)}, ints{0}},
		{"the one against two", tries{tried(0, 0, true), tried(0, 0, true), tried(0, 0, false)}, ints{2}},
		{"the one against two, which is first", tries{tried(0, 0, false), tried(0, 0, true), tried(0, 0, true)}, ints{0}},
		{"one that can never be", tries{tried(1, 1, true), tried(1, 0, true)}, ints{1}},
		{"two that can never be", tries{tried(1, 0, true), tried(1, 1, true), tried(1, 1, false)}, ints{0, 2}},
		{"the first ones of two against two", tries{tried(0, 0, true), tried(0, 1, true), tried(0, 0, true), tried(0, 1, true)}, ints{0, 2}},
		{"more than the first one", tries{tried(0, 2, true), tried(0, 0, true), tried(0, 1, false)}, ints{0}},
		{"a try of three that agrees with both", tries{tried(0, 2, false), tried(0, 0, true), tried(0, 1, true)}, ints{1}},
		{"all six", slices.Repeat(tries{tried(1, 0, true)}, 6), ints{0, 1, 2, 3, 4, 5}},
		{"the last one of six", append(slices.Repeat(tries{tried(0, 0, true)}, 5), tried(1, 0, true)), ints{5}},
	} {
		r := simple(keys, locks...)
		r.Tries = x.tries
		says(t, "Wrong: "+x.what, fmt.Sprint(key.Wrong(r)), x.want, api.OK)
		count, e := key.Count(r)
		if e != api.OK || (count == 0) != (len(x.want) > 0) {
			t.Error("Count: ", x.what, count, e)
		}
	}
}

// P8.4: the try that would tell most.
func TestAsk(t *testing.T) {
	three := []api.Key{of(0, 2, 2)}
	for _, x := range []struct {
		what string
		r    api.Ring
		want list
	}{
		{"two of three", simple(three, lock(0, 0)), some(0, 0, 2)},
		{"the other two of three", simple(three, lock(0, 1)), some(0, 0, 2)},
		{"nothing is told", simple(three, lock(0, 2), lock(3, 3)), nothing()},
		{"the first lock that tells", simple(three, lock(0, 3), lock(1, 2), lock(0, 0)), some(0, 1, 2)},
		{"the first key", simple([]api.Key{of(1, 1, 2), of(0, 1, 1), of(0, 1, 1)}, lock(0, 0)), some(1, 0, 2)},
		{"a key that tells more", simple([]api.Key{of(0, 2, 2), of(0, 1, 1)}, lock(0, 0)), some(1, 0, 3)},
		{"a key before a lock", simple([]api.Key{of(0, 1, 2), of(0, 1, 1)}, lock(0, 0), lock(1, 1)), some(0, 1, 2)},
		{"less after a try", with(simple([]api.Key{of(0, 2, 2)}, lock(0, 0), lock(1, 1)), also(tried(0, 0, false))), some(0, 1, 1)},
		{"the lock that tells most is behind", simple([]api.Key{of(0, 2, 3), of(0, 0, 0)}, lock(0, 3), lock(1, 3), lock(2, 3)), some(0, 2, 2)},
	} {
		key, lock, left, e := key.Ask(x.r)
		got := []any{ints{key, lock, left}, e}
		if e != api.OK {
			got[0] = ints{}
			if key != 0 || lock != 0 || left != 0 {
				t.Error("Ask: ", x.what, key, lock, left)
			}
		}
		says(t, "Ask: "+x.what, fmt.Sprint(got...), x.want.numbers, x.want.e)
	}
}

// P8.5, P8.6: Cover, Alike and Tell.
func TestKeys(t *testing.T) {
	exact := []bands{lock(0, 0), lock(1, 1), lock(2, 2), lock(3, 3)}
	for _, x := range []struct {
		what  string
		r     api.Ring
		cover list
		alike ints
		tell  list
	}{
		{"a key for each lock", simple([]api.Key{of(0, 0, 3), of(0, 0, 2), of(0, 0, 1), of(0, 0, 0)}, exact...),
			some(0, 1, 2, 3), ints{0, 1, 2, 3}, some(0, 1, 2)},
		{"two locks that nothing opens", simple([]api.Key{of(0, 0, 3), of(0, 0, 1)}, exact...),
			nothing(), ints{0, 1, 0, 2}, nothing()},
		{"the first ones of as few", simple([]api.Key{of(0, 0, 1), of(0, 0, 1), of(0, 0, 0)}, exact[:2]...),
			some(0, 2), ints{0, 1}, some(0)},
		{"fewer before the first ones", simple([]api.Key{of(0, 0, 0), of(0, 0, 1), of(0, 0, 2)}, lock(0, 2), lock(1, 2), lock(2, 2)),
			some(2), ints{0, 1, 2}, some(0, 1)},
		{"one key or the other", simple([]api.Key{of(0, 1, 1), of(0, 1, 2)}, lock(1, 1)),
			nothing(), ints{0}, some()},
		{"whatever the key is like", simple([]api.Key{of(0, 1, 1)}, lock(0, 0), lock(1, 1)),
			nothing(), ints{0, 1}, some(0)},
		{"not whatever the key is like", simple([]api.Key{of(0, 2, 2)}, lock(0, 0), lock(1, 1)),
			nothing(), ints{0, 1}, nothing()},
		{"alike as far as a try tells", with(simple([]api.Key{of(0, 2, 2)}, lock(2, 2), lock(0, 0), lock(1, 1)), also(tried(0, 2, true))),
			nothing(), ints{0, 0, 1}, nothing()},
		{"covered as far as a try tells", with(simple([]api.Key{of(0, 1, 1), of(0, 0, 0)}, lock(0, 0), lock(1, 1)), also(tried(0, 1, true))),
			some(0, 1), ints{0, 1}, some(0)},
		{"equal locks", simple([]api.Key{of(0, 1, 1)}, lock(0, 0), lock(0, 1), lock(0, 0), lock(0, 1)),
			nothing(), ints{0, 1, 0, 1}, nothing()},
		{"others that no key tells apart", simple([]api.Key{of(0, 0, 1)}, lock(0, 1), lock(2, 2), lock(1, 3), lock(0, 0)),
			nothing(), ints{0, 1, 0, 1}, nothing()},
		{"together", simple([]api.Key{of(0, 0, 0), of(0, 0, 1), of(0, 0, 2)}, lock(0, 1), lock(1, 2), lock(0, 0), lock(2, 2)),
			some(0, 2), ints{0, 1, 2, 3}, some(0, 1)},
	} {
		says(t, "Cover: "+x.what, fmt.Sprint(key.Cover(x.r)), x.cover.numbers, x.cover.e)
		says(t, "Alike: "+x.what, fmt.Sprint(key.Alike(x.r)), x.alike, api.OK)
		says(t, "Tell: "+x.what, fmt.Sprint(key.Tell(x.r)), x.tell.numbers, x.tell.e)
	}
}

// P8.7: the locks that a bag can have.
func TestWhich(t *testing.T) {
	worn := with(simple([]api.Key{of(0, 2, 2), of(0, 1, 1)}, lock(0, 0), lock(1, 1), lock(2, 2), lock(0, 1)), also(tried(1, 0, false)))
	for _, x := range []struct {
		what  string
		r     api.Ring
		turns turns
		want  ints
		e     api.Errno
	}{
		{"R", ringR(), nil, ints{0, 1, 2}, api.OK},
		{"R", ringR(), turns{turned(0, false)}, ints{1, 2}, api.OK},
		{"R", ringR(), turns{turned(0, false), turned(1, false)}, ints{2}, api.OK},
		{"R", ringR(), turns{turned(0, true)}, ints{0}, api.OK},
		{"R", ringR(), turns{turned(3, false)}, nil, api.ErrUnknown},
		{"U", ringU(), turns{turned(0, true)}, nil, api.ErrEmpty},
		{"not both at once", ringR(), turns{turned(2, true), turned(2, false)}, nil, api.OK},
		{"six turns", ringR(), slices.Repeat(turns{turned(1, true)}, 6), ints{1}, api.OK},
		{"no lock", api.Ring{Cuts: 1, Keys: []api.Key{of(0, 0, 0)}}, turns{turned(0, true)}, nil, api.OK},
		{"what is known by a try", worn, turns{turned(1, true)}, ints{1, 3}, api.OK},
		{"what is known by a try", worn, turns{turned(1, false)}, ints{0, 2}, api.OK},
		{"perhaps", worn, turns{turned(0, true)}, ints{0, 1, 2, 3}, api.OK},
		{"perhaps not", worn, turns{turned(0, false)}, ints{0, 1, 2, 3}, api.OK},
		{"in one truth", worn, turns{turned(0, true), turned(1, false)}, ints{0, 2}, api.OK},
		{"in none", worn, turns{turned(0, true), turned(0, false)}, nil, api.OK},
	} {
		says(t, fmt.Sprint("Which: ", x.what, " ", x.turns), fmt.Sprint(key.Which(x.r, x.turns)), x.want, x.e)
	}
	r := with(simple([]api.Key{of(0, 1, 1)}, lock(0, 0), lock(0, 1)), also(tried(0, 0, true), tried(0, 0, true)))
	says(t, "Which: tries are for all locks", fmt.Sprint(key.Which(r, turns{turned(0, true), turned(0, true)})), ints{0, 1}, api.OK)
}

// P8.8: Cut and Master.
func TestCut(t *testing.T) {
	for _, x := range []struct {
		what  string
		r     api.Ring
		locks ints
		want  list
	}{
		{"R", ringR(), ints{0}, some(2, 0)},
		{"R", ringR(), ints{1}, some(2, 2)},
		{"R", ringR(), ints{2}, some(0, 2)},
		{"R", ringR(), ints{0, 1}, some(2, 1)},
		{"R, from the last one", ringR(), ints{1, 0}, some(2, 1)},
		{"R", ringR(), ints{0, 2}, nothing()},
		{"R", ringR(), nil, some(0, 0)},
		{"R", ringR(), ints{0, 0}, list{e: api.ErrRepeat}},
		{"U, without a truth", ringU(), ints{0, 1}, some(2, 1)},
		{"the first one of all", simple(nil, lock(0, 3)), ints{0}, some(0)},
		{"the last one of all", api.Ring{Cuts: 4, Locks: []bands{lock(3, 3, 3, 3, 3, 3, 3, 3)}}, ints{0}, some(3, 3, 3, 3)},
		{"not the last one of all", api.Ring{Cuts: 2, Locks: []bands{lock(0, 3, 0, 2), lock(0, 2, 0, 3)}}, nil, some(3, 3)},
		{"there is always one more", simple(nil, lock(0, 3), lock(1, 1)), nil, nothing()},
		{"no lock", api.Ring{Cuts: 4}, nil, some(0, 0, 0, 0)},
		{"the last cut goes up first", api.Ring{Cuts: 3, Locks: []bands{lock(0, 3, 1, 3, 1, 2), lock(0, 3, 0, 1, 0, 3)}}, ints{0}, some(0, 2, 1)},
	} {
		says(t, fmt.Sprint("Cut: ", x.what, " ", x.locks), fmt.Sprint(key.Cut(x.r, x.locks)), x.want.numbers, x.want.e)
	}
	for _, x := range []struct {
		what string
		r    api.Ring
		want list
		wear int
	}{
		{"R", ringR(), nothing(), 0},
		{"Two", ringTwo(), some(2, 1), 0},
		{"U, without a truth", with(ringU(), func(r *api.Ring) { r.Locks[2] = r.Locks[0] }), some(2, 1), 0},
		{"no lock", api.Ring{Cuts: 4}, some(0, 0, 0, 0), 2},
		{"never less deep than 0", simple(nil, lock(0, 0)), some(0), 2},
		{"the first one of the longest", simple(nil, lock(0, 3), lock(0, 1)), some(0), 2},
		{"longer before lesser", simple(nil, lock(1, 3), lock(1, 2)), some(2), 1},
		{"the longest one", simple(nil, lock(1, 3)), some(3), 2},
		{"for a moment", simple(nil, lock(1, 1)), some(1), 0},
		{"all cuts", api.Ring{Cuts: 2, Locks: []bands{lock(1, 3, 2, 3)}}, some(2, 3), 1},
		{"worn to 0 at once", api.Ring{Cuts: 2, Locks: []bands{lock(1, 3, 0, 0)}}, some(3, 0), 2},
		{"no key", simple(nil, lock(0, 1), lock(2, 3)), nothing(), 0},
		{"not when it is new", simple(nil, lock(0, 1), lock(0, 3), lock(1, 3)), some(1), 0},
	} {
		says(t, "Master: "+x.what, fmt.Sprint(key.Master(x.r)), x.want.numbers, x.wear, x.want.e)
	}
}

// P8.9: Add.
func TestAdd(t *testing.T) {
	five := slices.Repeat(tries{tried(2, 2, false)}, 5)
	for _, x := range []struct {
		what string
		r    api.Ring
		try  api.Try
		want api.Ring
		e    api.Errno
	}{
		{"R", ringR(), tried(2, 2, true), ringS(), api.OK},
		{"R", ringR(), tried(1, 1, false), api.Ring{}, api.ErrContrary},
		{"R", ringR(), tried(3, 0, true), api.Ring{}, api.ErrUnknown},
		{"R", ringR(), tried(0, 3, true), api.Ring{}, api.ErrUnknown},
		{"S, again", ringS(), tried(2, 2, true), ringR(tried(2, 2, true), tried(2, 2, true)), api.OK},
		{"S, otherwise", ringS(), tried(2, 2, false), api.Ring{}, api.ErrContrary},
		{"S, as the last one", ringS(), tried(0, 0, true), ringR(tried(2, 2, true), tried(0, 0, true)), api.OK},
		{"U, without a truth before", ringU(), tried(1, 1, false), ringR(tried(1, 1, false), tried(1, 1, false)), api.OK},
		{"U, without a truth before", ringU(), tried(0, 0, true), ringR(tried(1, 1, false), tried(0, 0, true)), api.OK},
		{"the sixth one", ringR(five...), tried(2, 1, false), ringR(longer(five, tried(2, 1, false))...), api.OK},
		{"the sixth one is contrary", ringR(five...), tried(2, 2, true), api.Ring{}, api.ErrContrary},
		{"the seventh one", ringR(longer(five, tried(2, 1, false))...), tried(2, 1, false), api.Ring{}, api.ErrMany},
		{"the seventh one is contrary", ringR(longer(five, tried(2, 1, false))...), tried(2, 2, true), api.Ring{}, api.ErrMany},
	} {
		says(t, fmt.Sprint("Add: ", x.what, " ", x.try), fmt.Sprint(key.Add(x.r, x.try)), x.want, x.e)
	}
}

// tellsAll reports what is not said of the ring as it should be.
func tellsAll(t *testing.T, what string, r api.Ring, x told) {
	t.Helper()
	says(t, "Count"+what, fmt.Sprint(key.Count(r)), x.count, api.OK)
	for k, l := range x.opens {
		for lock, verdict := range l {
			says(t, fmt.Sprint("Opens", what, " ", k, " ", lock), fmt.Sprint(key.Opens(r, k, lock)), verdict, api.OK)
		}
	}
	for k, l := range x.wears {
		says(t, fmt.Sprint("Wears", what, " ", k), fmt.Sprint(key.Wears(r, k)), l, api.OK)
	}
	says(t, "Wrong"+what, fmt.Sprint(key.Wrong(r)), x.wrong, api.OK)
	if l := x.ask.numbers; x.ask.e == api.OK {
		says(t, "Ask"+what, fmt.Sprint(key.Ask(r)), l[0], l[1], l[2], api.OK)
	} else {
		says(t, "Ask"+what, fmt.Sprint(key.Ask(r)), 0, 0, 0, x.ask.e)
	}
	says(t, "Cover"+what, fmt.Sprint(key.Cover(r)), x.cover.numbers, x.cover.e)
	says(t, "Tell"+what, fmt.Sprint(key.Tell(r)), x.tell.numbers, x.tell.e)
	says(t, "Master"+what, fmt.Sprint(key.Master(r)), x.master.numbers, x.wear, x.master.e)
	if x.count > 0 {
		says(t, "Alike"+what, fmt.Sprint(key.Alike(r)), x.alike, api.OK)
		return
	}
	a := args{r: r}
	refused(t, what, a, api.ErrEmpty, "Alike", "Which")
	if len(r.Keys) > 0 {
		refused(t, what, a, api.ErrEmpty, "Wears")
	}
	if len(r.Keys) > 0 && len(r.Locks) > 0 {
		refused(t, what, a, api.ErrEmpty, "Opens")
	}
}

// largest returns arguments of the largest size.
func largest() args {
	deep := func(n int) ints { return ints{n, 3, n, 3} }
	r := api.Ring{Cuts: 4}
	for n := range 4 {
		r.Keys = append(r.Keys, of(0, 2, deep(n)...))
		r.Locks = append(r.Locks, lock(0, n, 1, 3, 0, 3, n/2, 3))
	}
	r.Tries = tries{tried(0, 0, true), tried(1, 1, true), tried(2, 1, true), tried(3, 3, true), tried(3, 3, true)}
	return args{r, 3, 3, 2, ints{3, 2, 1, 0}, make(turns, 6), tried(3, 3, true)}
}

// R2, R4, R6: a call depends on its arguments alone, and changes none of them.
func TestAgain(t *testing.T) {
	for _, x := range []args{ordinary(), largest()} {
		a := x
		a.r.Keys, a.r.Locks, a.r.Tries = roomy(x.r.Keys), roomy(x.r.Locks), roomy(x.r.Tries)
		for i := range a.r.Keys {
			a.r.Keys[i].Cuts = roomy(a.r.Keys[i].Cuts)
		}
		for i := range a.r.Locks {
			a.r.Locks[i] = roomy(a.r.Locks[i])
		}
		a.locks, a.turns = roomy(x.locks), roomy(x.turns)
		before := a.results()
		var group sync.WaitGroup
		for range 4 {
			group.Go(func() {
				for range 20 {
					if again := a.results(); !maps.Equal(again, before) {
						t.Errorf("%v; before %v", again, before)
					}
				}
			})
		}
		group.Wait()
		if !reflect.DeepEqual(a, x) {
			t.Error("arguments are changed:", a)
		}
		blank := bare(a.locks) && bare(a.turns) && bare(a.r.Keys) && bare(a.r.Locks) && bare(a.r.Tries)
		for _, k := range a.r.Keys {
			blank = blank && bare(k.Cuts)
		}
		for _, l := range a.r.Locks {
			blank = blank && bare(l)
		}
		if !blank {
			t.Error("what is behind arguments is changed:", a)
		}
	}
}

// roomy returns a copy of the list with room behind it; bare returns whether there is nothing in this.
func roomy[T any](l []T) []T { return append(make([]T, 0, 8), l...) }

func bare[T any](l []T) bool {
	return all(l[len(l):8], func(x T) bool { return reflect.ValueOf(x).IsZero() })
}

// R4: no result shares memory with an argument, or another result.
func TestMemory(t *testing.T) {
	a := ordinary()
	a.r.Keys, a.r.Locks, a.r.Tries = roomy(a.r.Keys), roomy(a.r.Locks), roomy(a.r.Tries)
	before := a.results()
	var lists []ints
	keep := func(l ints, e api.Errno) {
		if e != api.OK || len(l) == 0 {
			t.Error("nothing to look at:", l, e)
		}
		lists = append(lists, l)
	}
	for range 2 {
		keep(key.Worn(a.r, 2, 1))
		keep(key.Wears(a.r, 2))
		keep(key.Wrong(with(a.r, also(tried(0, 1, true)))))
		keep(key.Cover(a.r))
		keep(key.Alike(a.r))
		keep(key.Tell(a.r))
		keep(key.Which(a.r, nil))
		keep(key.Cut(a.r, ints{0}))
		master, _, e := key.Master(a.r)
		keep(master, e)
		added, e := key.Add(a.r, a.try)
		for _, k := range added.Keys {
			keep(k.Cuts, e)
		}
		for _, l := range added.Locks {
			clear(l)
			_ = append(l, api.Band{Min: -9})
		}
		clear(added.Keys)
		clear(added.Locks)
		clear(added.Tries)
		_, _, _ = append(added.Keys, api.Key{}), append(added.Locks, bands{}), append(added.Tries, tried(-9, -9, true))
	}
	for i, l := range lists {
		for k := range l {
			l[k] = -10 - i
		}
		_ = append(l, -9)
	}
	for i, l := range lists {
		if slices.Min(l) != -10-i || slices.Max(l) != -10-i {
			t.Error("results share memory:", lists)
		}
	}
	if again := a.results(); !maps.Equal(again, before) || !bare(a.r.Keys) || !bare(a.r.Locks) || !bare(a.r.Tries) {
		t.Errorf("%v; before %v", again, before)
	}
}

// R4: a nil slice and an empty one mean the same.
func TestNothing(t *testing.T) {
	keys, locks := []api.Key{of(0, 1, 1)}, []bands{lock(0, 0)}
	for _, x := range [][2]args{
		{{r: api.Ring{Cuts: 2}}, {r: api.Ring{Cuts: 2, Keys: []api.Key{}, Locks: []bands{}, Tries: tries{}}, locks: ints{}, turns: turns{}}},
		{{r: simple(keys)}, {r: api.Ring{Cuts: 1, Keys: keys, Locks: []bands{}, Tries: tries{}}, locks: ints{}, turns: turns{}}},
		{{r: simple(nil, locks...)}, {r: api.Ring{Cuts: 1, Keys: []api.Key{}, Locks: locks, Tries: tries{}}, locks: ints{}, turns: turns{}}},
		{{r: simple(keys, locks...)}, {r: api.Ring{Cuts: 1, Keys: keys, Locks: locks, Tries: tries{}}, locks: ints{}, turns: turns{}}},
		{{r: simple([]api.Key{{}})}, {r: simple([]api.Key{{Cuts: ints{}}})}},
		{{r: simple(nil, nil)}, {r: simple(nil, bands{})}},
	} {
		if a, b := x[0].results(), x[1].results(); !maps.Equal(a, b) {
			t.Error(a, b)
		}
	}
}

// P1, R5: whatever the arguments are, a function returns, with zero values beside an error.
func TestAnything(t *testing.T) {
	rng := rand.New(rand.NewPCG(8, 8))
	odd := ints{math.MinInt, math.MinInt + 1, -3, -2, -1, 0, 1, 2, 3, 4, 5, 8, 64, 1 << 32, math.MaxInt - 1, math.MaxInt}
	some := func() int { return odd[rng.IntN(len(odd))] }
	blank := map[string][]string{} // what a function may say if there is an error
	for e := api.OK + 1; e <= api.ErrClosed; e++ {
		for name, text := range refusals(e) {
			blank[name] = append(blank[name], text)
		}
	}
	try := func() api.Try { return tried(some(), some(), rng.IntN(2) == 0) }
	band := func() api.Band { return api.Band{Min: some(), Max: some()} }
	change := func(r *api.Ring) {
		k, l := rng.IntN(len(r.Keys)+1), rng.IntN(len(r.Locks)+1)
		switch rng.IntN(9) {
		case 0:
			r.Cuts = some()
		case 1:
			r.Tries = append(r.Tries, try())
		case 2, 3, 4:
			if k == len(r.Keys) {
				r.Keys = append(r.Keys, api.Key{Cuts: ints{some()}, Wear: band()})
			} else if x := &r.Keys[k]; rng.IntN(2) == 0 {
				x.Wear = band()
			} else {
				x.Cuts = append(x.Cuts[rng.IntN(len(x.Cuts)+1):], some())
			}
		case 5, 6:
			if l == len(r.Locks) {
				r.Locks = append(r.Locks, bands{band()})
			} else {
				r.Locks[l] = append(r.Locks[l][rng.IntN(len(r.Locks[l])+1):], band())
			}
		}
	}
	for range 6000 {
		a := args{with(drawn(rng), change), some(), some(), some(), nil, nil, try()}
		for range rng.IntN(9) {
			a.locks, a.turns = append(a.locks, some()), append(a.turns, turned(some(), rng.IntN(2) == 0))
		}
		for name, text := range a.results() {
			if !strings.HasSuffix(text, fmt.Sprint(api.OK)) && !slices.Contains(blank[name], text) {
				t.Fatalf("%s of %v: %s", name, a, text)
			}
		}
	}
	const most = 1 << 20
	for what, r := range map[string]api.Ring{
		"keys":   {Cuts: 1, Keys: make([]api.Key, most)},
		"depths": simple([]api.Key{{Cuts: make(ints, most)}}),
		"locks":  {Cuts: 1, Locks: make([]bands, most)},
		"bands":  simple(nil, make(bands, most)),
		"tries":  {Cuts: 1, Tries: make(tries, most)},
	} {
		refused(t, "a long list of "+what, args{r: r}, api.ErrMany, names()...)
	}
	refused(t, "a long list of turns", args{r: ringR(), turns: make(turns, most)}, api.ErrMany, "Which")
	refused(t, "a long list for a cut", args{r: ringR(), locks: make(ints, most)}, api.ErrRepeat, "Cut")
}

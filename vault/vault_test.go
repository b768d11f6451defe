package vault_test

import (
	"fmt"
	"maps"
	"math"
	"math/rand/v2"
	"reflect"
	"slices"
	"strings"
	"sync"
	"testing"

	"gladstone/api"
	"gladstone/vault"
)

// args are arguments for all functions.
type args struct {
	v                          api.Vault
	truth                      ints
	rule, call, piece, fetched int
}

// ordinary returns arguments of which none is wrong.
func ordinary() args { return args{vaultV(), truthX(), api.RuleStale, 0, 1, 2} }

// results returns what each function says, by its name. (A nil list is written as an empty one is.)
func (a args) results() map[string]string {
	return map[string]string{
		"Check":   fmt.Sprint(vault.Check(a.v)),
		"Run":     fmt.Sprint(vault.Run(a.v, a.truth, a.rule)),
		"Best":    fmt.Sprint(vault.Best(a.v, a.truth)),
		"Count":   fmt.Sprint(vault.Count(a.v, a.truth)),
		"Sent":    fmt.Sprint(vault.Sent(a.v, a.truth, a.call, a.piece)),
		"Phases":  fmt.Sprint(vault.Phases(a.v, a.truth)),
		"Places":  fmt.Sprint(vault.Places(a.v, a.truth, a.fetched)),
		"Truths":  fmt.Sprint(vault.Truths(a.v)),
		"Fetches": fmt.Sprint(vault.Fetches(a.v, a.rule)),
		"Fewest":  fmt.Sprint(vault.Fewest(a.v)),
		"Regret":  fmt.Sprint(vault.Regret(a.v, a.rule)),
		"Rule":    fmt.Sprint(vault.Rule(a.v)),
		"Ask":     fmt.Sprint(vault.Ask(a.v)),
	}
}

// refusals returns what each function says with the error: all other results are zero values (R3).
func refusals(e api.Errno) map[string]string {
	nothing := ints{}
	return map[string]string{
		"Check":   fmt.Sprint(e),
		"Run":     fmt.Sprint(nothing, 0, e),
		"Best":    fmt.Sprint(nothing, 0, e),
		"Count":   fmt.Sprint(0, e),
		"Sent":    fmt.Sprint(0, e),
		"Phases":  fmt.Sprint(nothing, e),
		"Places":  fmt.Sprint(0, e),
		"Truths":  fmt.Sprint(0, e),
		"Fetches": fmt.Sprint(api.Band{}, e),
		"Fewest":  fmt.Sprint(api.Band{}, e),
		"Regret":  fmt.Sprint(0, e),
		"Rule":    fmt.Sprint(0, e),
		"Ask":     fmt.Sprint(0, 0, e),
	}
}

// names returns the names of all functions.
func names() []string { return slices.Sorted(maps.Keys(refusals(api.OK))) }

// ofTruths are the functions that return the error of a truth.
func ofTruths() []string { return []string{"Run", "Best", "Count", "Sent", "Phases", "Places"} }

// refused reports each of the functions that does not refuse the arguments with the error.
func refused(t *testing.T, what string, a args, e api.Errno, functions ...string) {
	t.Helper()
	got, wanted := a.results(), refusals(e)
	for _, name := range functions {
		if got[name] != wanted[name] {
			t.Errorf("%s: %s: %s; want %s", what, name, got[name], wanted[name])
		}
	}
}

// says reports results that are not the wanted ones; both are written down by fmt.Sprint.
func says(t *testing.T, what, got string, wanted ...any) {
	t.Helper()
	if text := fmt.Sprint(wanted...); got != text {
		t.Errorf("%s: %s; want %s", what, got, text)
	}
}

// starting and calling change what is in the office, and the list of the call 1.
func starting(pieces ...int) func(v *api.Vault) { return func(v *api.Vault) { v.Start = pieces } }

func calling(pieces ...int) func(v *api.Vault) { return func(v *api.Vault) { v.Calls[1] = pieces } }

// P5.1: the first error of a vault, which all functions return first (R1, R3).
func TestCheck(t *testing.T) {
	for _, x := range []struct {
		what   string
		change func(v *api.Vault)
		want   api.Errno
	}{
		{"V", func(v *api.Vault) {}, api.OK},
		{"W", func(v *api.Vault) { *v = vaultW() }, api.OK},
		{"nothing", func(v *api.Vault) { *v = api.Vault{} }, api.ErrAmount},
		{"no place", func(v *api.Vault) { v.Places = 0 }, api.ErrAmount},
		{"-1 places", func(v *api.Vault) { v.Places = -1 }, api.ErrAmount},
		{"4 places", func(v *api.Vault) { v.Places = 4 }, api.OK},
		{"5 places", func(v *api.Vault) { v.Places = 5 }, api.ErrAmount},
		{"no place, before Start", func(v *api.Vault) { v.Places, v.Start = 0, ints{9, 9} }, api.ErrAmount},
		{"no pieces", func(v *api.Vault) { v.Pieces = 0 }, api.ErrAmount},
		{"-1 pieces", func(v *api.Vault) { v.Pieces = -1 }, api.ErrAmount},
		{"6 pieces", func(v *api.Vault) { v.Pieces, v.Calls[1] = 6, ints{0, 5} }, api.OK},
		{"7 pieces", func(v *api.Vault) { v.Pieces = 7 }, api.ErrAmount},
		{"7 pieces, before Start", func(v *api.Vault) { v.Pieces, v.Start = 7, ints{9, 9, 9} }, api.ErrAmount},
		{"1 piece", func(v *api.Vault) { *v = vaultOf(1, 1, ints{0}, ints{0}) }, api.OK},
		{"Start 0 1 2", starting(0, 1, 2), api.ErrMany},
		{"Start 9 9 9", starting(9, 9, 9), api.ErrMany},
		{"Start 0 1 2, before Calls", func(v *api.Vault) { v.Start, v.Calls = ints{0, 1, 2}, []ints{nil} }, api.ErrMany},
		{"no Start", starting(), api.OK},
		{"Start 3", starting(3), api.OK},
		{"Start 3 0", starting(3, 0), api.OK},
		{"Start 4", starting(4), api.ErrUnknown},
		{"Start 0 4", starting(0, 4), api.ErrUnknown},
		{"Start 0 -1", starting(0, -1), api.ErrUnknown},
		{"Start 4 4", starting(4, 4), api.ErrUnknown},
		{"Start -1 -1", starting(-1, -1), api.ErrUnknown},
		{"Start 64", starting(64), api.ErrUnknown},
		{"Start 0 0", starting(0, 0), api.ErrRepeat},
		{"Start 1 0 1 9 of 4", func(v *api.Vault) { v.Places, v.Start = 4, ints{1, 0, 1, 9} }, api.ErrRepeat},
		{"Start 1 9 1 of 3", func(v *api.Vault) { v.Places, v.Start = 3, ints{1, 9, 1} }, api.ErrUnknown},
		{"Start 0 0, before Calls", func(v *api.Vault) { v.Start, v.Calls = ints{0, 0}, make([]ints, 9) }, api.ErrRepeat},
		{"no calls", func(v *api.Vault) { v.Calls = nil }, api.OK},
		{"8 calls", func(v *api.Vault) { v.Calls = slices.Repeat([]ints{{3}}, 8) }, api.OK},
		{"9 calls", func(v *api.Vault) { v.Calls = slices.Repeat([]ints{{3}}, 9) }, api.ErrMany},
		{"9 calls, before what they are", func(v *api.Vault) { v.Calls = make([]ints, 9) }, api.ErrMany},
		{"8 calls of nothing", func(v *api.Vault) { v.Calls = make([]ints, 8) }, api.ErrFew},
		{"a call of no piece", calling(), api.ErrFew},
		{"a call of no piece, the first", func(v *api.Vault) { v.Calls[0] = nil }, api.ErrFew},
		{"a call of no piece, the last", func(v *api.Vault) { v.Calls[3] = ints{} }, api.ErrFew},
		{"a call 0 1 2 3", calling(0, 1, 2, 3), api.OK},
		{"a call 4", calling(4), api.ErrUnknown},
		{"a call 1 4", calling(1, 4), api.ErrUnknown},
		{"a call -1", calling(-1), api.ErrUnknown},
		{"a call 1 -1", calling(1, -1), api.ErrUnknown},
		{"a call 3 1", calling(3, 1), api.ErrOrder},
		{"a call 1 1", calling(1, 1), api.ErrOrder},
		{"a call 0 0", calling(0, 0), api.ErrOrder},
		{"a call 0 2 1", calling(0, 2, 1), api.ErrOrder},
		{"a call 1 0 9", calling(1, 0, 9), api.ErrOrder},
		{"a call 1 9 0", calling(1, 9, 0), api.ErrUnknown},
		{"a call 9 0", calling(9, 0), api.ErrUnknown},
		{"a call 4, before the next one", func(v *api.Vault) { v.Calls[1], v.Calls[2] = ints{4}, nil }, api.ErrUnknown},
		{"a call of no piece, before the next one", func(v *api.Vault) { v.Calls[1], v.Calls[2] = nil, ints{4} }, api.ErrFew},
		{"a call 3 1, before the next one", func(v *api.Vault) { v.Calls[1], v.Calls[2] = ints{3, 1}, ints{4} }, api.ErrOrder},
	} {
		a := ordinary()
		a.v = with(a.v, x.change)
		says(t, x.what, fmt.Sprint(vault.Check(a.v)), x.want)
		if x.want == api.OK {
			continue
		}
		refused(t, x.what, a, x.want, names()...)
		for _, bad := range []ints{nil, {2}, {9, 9, 9, 9}, make(ints, 10)} {
			a = args{a.v, bad, 4, -1, 9, -1}
			refused(t, x.what+", before all others", a, x.want, names()...)
		}
	}
}

// P5.1 to P5.4: the first error of a truth, which all functions of a truth return (R1, R3).
func TestTruth(t *testing.T) {
	empty := vaultOf(1, 1, nil)
	for _, x := range []struct {
		v     api.Vault
		truth ints
		want  api.Errno
	}{
		{vaultV(), truthX(), api.OK},
		{vaultV(), truthY(), api.OK},
		{vaultV(), ints{2, 0, 2, 0}, api.ErrContrary},
		{vaultV(), ints{2, 0, 0, 0}, api.ErrContrary},
		{vaultV(), ints{0, 0, 1, 0}, api.ErrContrary},
		{vaultV(), ints{2, 0, 1, 3}, api.ErrContrary},
		{vaultV(), ints{2, 0, 1, -1}, api.ErrContrary},
		{vaultV(), ints{2, 0, 4, 0}, api.ErrContrary},
		{vaultV(), ints{2, 0, math.MaxInt, math.MinInt}, api.ErrContrary},
		{vaultV(), ints{2, 0, 1}, api.ErrFew},
		{vaultV(), ints{9, 9, 9}, api.ErrFew},
		{vaultV(), nil, api.ErrFew},
		{vaultV(), ints{2, 0, 1, 0, 0}, api.ErrMany},
		{vaultV(), ints{9, 9, 9, 9, 9}, api.ErrMany},
		{empty, nil, api.OK},
		{empty, ints{0}, api.ErrMany},
	} {
		what := fmt.Sprint(x.v, x.truth)
		if x.want != api.OK {
			refused(t, what, args{v: x.v, truth: x.truth}, x.want, ofTruths()...)
			refused(t, what+", before all others", args{x.v, x.truth, 4, -1, 9, -1}, x.want, ofTruths()...)
			continue
		}
		for rule := range 4 {
			if _, _, e := vault.Run(x.v, x.truth, rule); e != api.OK {
				t.Error(what, rule, e)
			}
		}
	}
}

// P5.1, P5.2, P5.4 to P5.6: the errors of rules, calls, pieces and numbers of pieces (R1, R3).
func TestErrors(t *testing.T) {
	for _, rule := range []int{-1, 4, math.MinInt, math.MaxInt} {
		a := ordinary()
		a.rule = rule
		refused(t, fmt.Sprint("rule ", rule), a, api.ErrKind, "Run", "Fetches", "Regret")
	}
	for _, x := range []struct{ call, piece int }{{-1, 0}, {4, 0}, {0, -1}, {0, 4}, {4, 4}, {math.MaxInt, 0}, {0, math.MinInt}} {
		a := ordinary()
		a.call, a.piece = x.call, x.piece
		refused(t, fmt.Sprint("call and piece ", x), a, api.ErrUnknown, "Sent")
	}
	refused(t, "no call", args{v: vaultOf(1, 1, nil)}, api.ErrUnknown, "Sent")
	says(t, "the last ones", fmt.Sprint(vault.Sent(vaultV(), truthX(), 3, 3)), api.NoWay, api.OK)
	for _, fetched := range []int{-1, math.MinInt} {
		a := ordinary()
		a.fetched = fetched
		refused(t, fmt.Sprint("fetched ", fetched), a, api.ErrAmount, "Places")
	}
}

// knownVaults are vaults whose calls are known, so that each has just one truth.
func knownVaults() map[string]api.Vault {
	return map[string]api.Vault{
		"X":                 with(vaultV(), func(v *api.Vault) { v.Calls[2] = ints{1} }),
		"Y":                 with(vaultV(), func(v *api.Vault) { v.Calls[2] = ints{3} }),
		"first in":          asked(3, 5, nil, 0, 1, 2, 3, 0, 1, 4, 0),
		"came again":        asked(2, 4, ints{0, 1}, 2, 0, 3),
		"Start in disorder": asked(2, 3, ints{2, 0}, 1, 2, 0, 1),
		"asked for again":   asked(2, 3, ints{1, 0}, 1, 2, 1, 0),
		"not asked for yet": asked(3, 5, ints{2, 0, 1}, 2, 3, 4),
		"never again":       asked(3, 5, ints{4, 1, 2}, 3, 2, 0),
		"room for all":      asked(4, 4, ints{3}, 0, 1, 0, 2, 3),
		"no call":           asked(1, 1, nil),
		"one place":         asked(1, 3, ints{0}, 1, 0, 1),
		"all in the office": asked(2, 2, ints{1, 0}, 0, 1, 0),
		"one at the end":    asked(2, 3, ints{0, 1}, 2),
		"four, then two":    asked(4, 6, ints{0, 1, 2, 3}, 4, 5),
		"the same again":    asked(2, 5, ints{0, 1}, 2, 2, 3, 3, 4, 4, 0, 0),
	}
}

// P5.1: Run.
func TestRun(t *testing.T) {
	vaults := knownVaults()
	for _, x := range []struct {
		what    string
		rule    int
		choice  ints
		fetched int
	}{
		{"X", api.RuleLow, ints{0, 1, 0, 1}, 4},
		{"X", api.RuleOld, ints{0, 1, 2, -1}, 3},
		{"X", api.RuleStale, ints{0, 1, 2, -1}, 3},
		{"X", api.RuleLate, ints{1, -1, 2, -1}, 2},
		{"Y", api.RuleLow, ints{0, 1, 0, 2}, 4},
		{"Y", api.RuleOld, ints{0, 1, 2, -1}, 3},
		{"first in", api.RuleLow, ints{-1, -1, -1, 0, 1, 0, 1, 2}, 8},
		{"first in", api.RuleOld, ints{-1, -1, -1, 0, 1, 2, 3, -1}, 7},
		{"first in", api.RuleLate, ints{-1, -1, -1, 2, -1, -1, 1, -1}, 5},
		{"came again", api.RuleOld, ints{0, 1, 2}, 3},
		{"Start in disorder", api.RuleLow, ints{0, -1, 1, 0}, 3},
		{"Start in disorder", api.RuleOld, ints{2, 0, 1, 2}, 4},
		{"Start in disorder", api.RuleStale, ints{2, 0, 1, 2}, 4},
		{"Start in disorder", api.RuleLate, ints{0, -1, 2, -1}, 2},
		{"asked for again", api.RuleOld, ints{-1, 1, 0, 2}, 3},
		{"asked for again", api.RuleStale, ints{-1, 0, -1, 2}, 2},
		{"not asked for yet", api.RuleOld, ints{-1, 2, 0}, 2},
		{"not asked for yet", api.RuleStale, ints{-1, 0, 1}, 2},
		{"never again", api.RuleLate, ints{1, -1, 2}, 2},
		{"room for all", api.RuleLow, ints{-1, -1, -1, -1, -1}, 3},
		{"room for all", api.RuleLate, ints{-1, -1, -1, -1, -1}, 3},
		{"no call", api.RuleStale, nil, 0},
		{"one place", api.RuleLow, ints{0, 1, 0}, 3},
		{"all in the office", api.RuleOld, ints{-1, -1, -1}, 0},
		{"four, then two", api.RuleLate, ints{0, 1}, 2},
	} {
		v := vaults[x.what]
		says(t, fmt.Sprint("Run: ", x.what, " ", x.rule), fmt.Sprint(vault.Run(v, truthOf(v), x.rule)), x.choice, x.fetched, api.OK)
	}
	says(t, "Run of V", fmt.Sprint(vault.Run(vaultV(), truthY(), api.RuleLate)), ints{1, -1, 2, -1}, 2, api.OK)
}

// P5.2: Best and Count.
func TestBest(t *testing.T) {
	vaults := knownVaults()
	for _, x := range []struct {
		what           string
		choice         ints
		fetched, count int
	}{
		{"X", ints{0, 2, -1, -1}, 2, 2},
		{"Y", ints{1, -1, 2, -1}, 2, 1},
		{"first in", ints{-1, -1, -1, 2, -1, -1, 1, -1}, 5, 2},
		{"came again", ints{1, -1, 0}, 2, 2},
		{"Start in disorder", ints{0, -1, 2, -1}, 2, 1},
		{"one place", ints{0, 1, 0}, 3, 1},
		{"all in the office", ints{-1, -1, -1}, 0, 1},
		{"one at the end", ints{0}, 1, 2},
		{"four, then two", ints{0, 1}, 2, 16},
		{"the same again", ints{1, -1, 2, -1, 3, -1, -1, -1}, 3, 1},
		{"room for all", ints{-1, -1, -1, -1, -1}, 3, 1},
		{"no call", nil, 0, 1},
	} {
		v := vaults[x.what]
		says(t, "Best: "+x.what, fmt.Sprint(vault.Best(v, truthOf(v))), x.choice, x.fetched, api.OK)
		says(t, "Count: "+x.what, fmt.Sprint(vault.Count(v, truthOf(v))), x.count, api.OK)
	}
	says(t, "Best of V", fmt.Sprint(vault.Best(vaultV(), truthX())), ints{0, 2, -1, -1}, 2, api.OK)
	says(t, "Count of V", fmt.Sprint(vault.Count(vaultV(), truthX())), 2, api.OK)
}

// P5.2: Sent.
func TestSent(t *testing.T) {
	vaults := knownVaults()
	for _, x := range []struct {
		what                 string
		call, piece, verdict int
	}{
		{"X", 0, 1, api.Perhaps},
		{"X", 0, 0, api.Perhaps},
		{"X", 0, 2, api.NoWay},
		{"X", 1, 2, api.Perhaps},
		{"X", 2, 2, api.Perhaps},
		{"X", 3, 0, api.NoWay},
		{"Y", 0, 1, api.Always},
		{"Y", 0, 0, api.NoWay},
		{"Y", 2, 2, api.Always},
		{"one place", 0, 0, api.Always},
		{"one place", 1, 1, api.Always},
		{"one place", 1, 2, api.NoWay},
		{"one at the end", 0, 0, api.Perhaps},
		{"one at the end", 0, 2, api.NoWay},
		{"all in the office", 2, 0, api.NoWay},
		{"the same again", 2, 2, api.Always},
		{"the same again", 3, 2, api.NoWay},
	} {
		v := vaults[x.what]
		says(t, fmt.Sprint("Sent: ", x), fmt.Sprint(vault.Sent(v, truthOf(v), x.call, x.piece)), x.verdict, api.OK)
	}
}

// P5.3: Phases.
func TestPhases(t *testing.T) {
	vaults := knownVaults()
	for what, want := range map[string]ints{
		"X":                 {0, 2},
		"Y":                 {0, 2},
		"first in":          {0, 3, 6},
		"came again":        {0, 2},
		"room for all":      {0},
		"no call":           nil,
		"one place":         {0, 1, 2},
		"all in the office": {0},
		"one at the end":    {0},
		"the same again":    {0, 4},
		"four, then two":    {0},
	} {
		says(t, "Phases: "+what, fmt.Sprint(vault.Phases(vaults[what], truthOf(vaults[what]))), want, api.OK)
	}
	says(t, "Phases of V", fmt.Sprint(vault.Phases(vaultV(), truthX())), ints{0, 2}, api.OK)
}

// P5.4: Places.
func TestPlaces(t *testing.T) {
	vaults := knownVaults()
	empty := api.ErrEmpty
	for _, x := range []struct {
		what            string
		fetched, places int
		e               api.Errno
	}{
		{"X", 2, 2, api.OK},
		{"X", 1, 3, api.OK},
		{"X", 0, 0, empty},
		{"X", math.MaxInt, 2, api.OK},
		{"Y", 2, 2, api.OK},
		{"Y", 1, 0, empty},
		{"first in", 8, 1, api.OK},
		{"first in", 7, 2, api.OK},
		{"first in", 5, 3, api.OK},
		{"first in", 4, 0, empty},
		{"all in the office", 0, 2, api.OK},
		{"all in the office", 9, 2, api.OK},
		{"one place", 2, 2, api.OK},
		{"one place", 1, 2, api.OK},
		{"one place", 3, 1, api.OK},
		{"four, then two", 2, 4, api.OK},
		{"four, then two", 1, 0, empty},
		{"no call", 0, 1, api.OK},
	} {
		v := vaults[x.what]
		says(t, fmt.Sprint("Places: ", x), fmt.Sprint(vault.Places(v, truthOf(v), x.fetched)), x.places, x.e)
	}
	all := asked(4, 6, ints{0, 1, 2, 3}, 4, 5, 0, 1, 2, 3, 4, 5)
	for fetched, places := range map[int]int{2: 6, 3: 5, 4: 4, 8: 4} {
		says(t, fmt.Sprint("Places: more than an office has ", fetched), fmt.Sprint(vault.Places(all, truthOf(all), fetched)), places, api.OK)
	}
}

// P5.5 to P5.7: Truths, Fetches, Fewest, Regret, Rule and Ask.
func TestTruths(t *testing.T) {
	ok, none := api.OK, api.ErrEmpty
	both := [4]api.Band{band(0, 2), band(0, 2), band(0, 2), band(0, 2)}
	same := func(b api.Band) [4]api.Band { return [4]api.Band{b, b, b, b} }
	for _, x := range []struct {
		what string
		v    api.Vault
		told
	}{
		{"V", vaultV(), told{2, [4]api.Band{band(4, 4), band(3, 3), band(3, 3), band(2, 2)}, band(2, 2), [4]int{2, 1, 1, 0}, api.RuleOld, 0, 0, none}},
		{"W", vaultW(), told{4, both, band(0, 2), [4]int{}, api.RuleLow, 0, 1, ok}},
		{"no call", vaultOf(1, 1, nil), told{1, same(band(0, 0)), band(0, 0), [4]int{}, api.RuleLow, 0, 0, none}},
		{"one call", vaultOf(2, 3, nil, ints{0, 1, 2}), told{3, same(band(1, 1)), band(1, 1), [4]int{}, api.RuleLow, 0, 0, none}},
		{"one that may be there", vaultOf(1, 2, ints{0}, ints{0, 1}), told{2, same(band(0, 1)), band(0, 1), [4]int{}, api.RuleLow, 0, 0, ok}},
		{"the second call", vaultOf(1, 3, ints{0}, ints{0}, ints{0, 1, 2}), told{3, same(band(0, 1)), band(0, 1), [4]int{}, api.RuleLow, 1, 0, ok}},
		{"all are known", asked(1, 3, ints{0}, 1, 0, 1), told{1, same(band(3, 3)), band(3, 3), [4]int{}, api.RuleLow, 0, 0, none}},
		{"the last one may be there", vaultOf(2, 3, ints{0, 1}, ints{2}, ints{0, 1}), told{2, [4]api.Band{band(1, 2), band(1, 2), band(1, 2), band(1, 1)}, band(1, 1), [4]int{1, 1, 1, 0}, api.RuleLow, 0, 0, none}},
		{"stale", asked(2, 3, ints{1, 0}, 1, 2, 1), told{1, [4]api.Band{band(1, 1), band(2, 2), band(1, 1), band(1, 1)}, band(1, 1), [4]int{0, 1, 0, 0}, api.RuleLow, 0, 0, none}},
		{"only stale", asked(2, 3, ints{0, 1}, 0, 2, 0), told{1, [4]api.Band{band(2, 2), band(2, 2), band(1, 1), band(1, 1)}, band(1, 1), [4]int{1, 1, 0, 0}, api.RuleStale, 0, 0, none}},
	} {
		tells(t, ": "+x.what, x.v, x.told)
	}
}

// tells reports what is not said of the vault as it should be.
func tells(t *testing.T, what string, v api.Vault, x told) {
	t.Helper()
	says(t, "Truths"+what, fmt.Sprint(vault.Truths(v)), x.truths, api.OK)
	says(t, "Fewest"+what, fmt.Sprint(vault.Fewest(v)), x.fewest, api.OK)
	for rule := range x.fetches {
		says(t, fmt.Sprint("Fetches ", rule, what), fmt.Sprint(vault.Fetches(v, rule)), x.fetches[rule], api.OK)
		says(t, fmt.Sprint("Regret ", rule, what), fmt.Sprint(vault.Regret(v, rule)), x.regrets[rule], api.OK)
	}
	says(t, "Rule"+what, fmt.Sprint(vault.Rule(v)), x.rule, api.OK)
	says(t, "Ask"+what, fmt.Sprint(vault.Ask(v)), x.call, x.wide, x.askE)
}

// P5.5 to P5.7: vaults of as many truths as there can be.
func TestLargest(t *testing.T) {
	for _, start := range []ints{nil, {4, 2}, {0, 1, 2, 3}} {
		v := vaultOf(max(1, len(start)), api.VaultPieces, start)
		v.Calls = slices.Repeat([]ints{{0, 1, 2, 3, 4, 5}}, api.VaultCalls)
		fewest := ledgerBand(v)
		says(t, "Truths", fmt.Sprint(vault.Truths(v)), 1679616, api.OK)
		says(t, "Fewest", fmt.Sprint(vault.Fewest(v)), fewest, api.OK)
		says(t, "Fetches by RuleLate", fmt.Sprint(vault.Fetches(v, api.RuleLate)), fewest, api.OK)
		least := 1 - min(1, len(start))  // a piece that is there can be asked for all the time
		for rule := range api.RuleLate { // each call can be for a piece that is not there
			says(t, fmt.Sprint("Fetches by ", rule), fmt.Sprint(vault.Fetches(v, rule)), band(least, api.VaultCalls), api.OK)
		}
		call, wide, e := askOf(v, fewest, func(v api.Vault) api.Band { return sure(vault.Fewest(v)) })
		says(t, "Ask", fmt.Sprint(vault.Ask(v)), call, wide, e)
	}
}

// R2, R4, R6: a call depends on its arguments alone, and changes none of them.
func TestAgain(t *testing.T) {
	wide := vaultOf(2, 4, ints{3, 1}, ints{0, 2}, ints{1}, ints{0, 1, 3}, ints{0, 1, 2, 3})
	for _, v := range []api.Vault{vaultV(), wide} {
		a := ordinary()
		roomy := func(l ints) ints { return append(make(ints, 0, 9), l...) }
		a.v = with(v, func(v *api.Vault) {
			v.Start, v.Calls = roomy(v.Start), append(make([]ints, 0, 9), v.Calls...)
			for call, l := range v.Calls {
				v.Calls[call] = roomy(l)
			}
		})
		a.truth = roomy(truthOf(v))
		before := a.results()
		var group sync.WaitGroup
		for range 4 {
			group.Go(func() {
				for range 20 {
					if again := a.results(); !maps.Equal(again, before) {
						t.Errorf("%v; before %v", again, before)
					}
				}
			})
		}
		group.Wait()
		if !reflect.DeepEqual(a.v, v) || !slices.Equal(a.truth, truthOf(v)) {
			t.Error("arguments are changed:", a)
		}
		for _, l := range append([]ints{a.v.Start, a.truth}, a.v.Calls...) {
			if behind := l[len(l):9]; !slices.Equal(behind, make(ints, len(behind))) {
				t.Error("what is behind arguments is changed:", behind)
			}
		}
		if behind := a.v.Calls[len(a.v.Calls):9]; slices.ContainsFunc(behind, func(l ints) bool { return l != nil }) {
			t.Error("what is behind the calls is changed:", behind)
		}
	}
}

// R4: no result shares memory with an argument, or another result.
func TestMemory(t *testing.T) {
	a := ordinary()
	before := a.results()
	run, _, _ := vault.Run(a.v, a.truth, a.rule)
	again, _, _ := vault.Run(a.v, a.truth, a.rule)
	best, _, _ := vault.Best(a.v, a.truth)
	phases, _ := vault.Phases(a.v, a.truth)
	lists := []ints{run, again, best, phases}
	for i, l := range lists {
		for k := range l {
			l[k] = -7 - i
		}
		_ = append(l, -8)
	}
	for i, l := range lists {
		if len(l) == 0 || slices.Min(l) != -7-i || slices.Max(l) != -7-i {
			t.Error("results share memory:", lists)
		}
	}
	if again := a.results(); !maps.Equal(again, before) || !reflect.DeepEqual(a, ordinary()) {
		t.Errorf("%v; before %v", again, before)
	}
}

// R4: a nil slice and an empty one mean the same.
func TestNothing(t *testing.T) {
	for _, x := range [][2]args{
		{{v: vaultOf(1, 1, nil)}, {v: api.Vault{Places: 1, Pieces: 1, Start: ints{}, Calls: []ints{}}, truth: ints{}}},
		{{v: vaultV()}, {v: vaultV(), truth: ints{}}},
		{{v: vaultOf(1, 1, nil, nil)}, {v: vaultOf(1, 1, ints{}, ints{}), truth: ints{}}},
	} {
		if a, b := x[0].results(), x[1].results(); !maps.Equal(a, b) {
			t.Error(a, b)
		}
	}
}

// P1, R5: whatever the arguments are, a function returns, with zero values beside an error.
func TestAnything(t *testing.T) {
	rng := rand.New(rand.NewPCG(5, 6))
	odd := ints{math.MinInt, math.MinInt + 1, -1, 0, 1, 2, 3, 4, 5, 6, 7, 8, 9, 31, 63, 64, 1 << 32, math.MaxInt - 1, math.MaxInt}
	some := func() int { return odd[rng.IntN(len(odd))] }
	blank := map[string][]string{} // what a function may say if there is an error
	for e := api.OK + 1; e <= api.ErrClosed; e++ {
		for name, text := range refusals(e) {
			blank[name] = append(blank[name], text)
		}
	}
	draws(10000, 5, 3, func(_ *rand.Rand, v api.Vault, truth ints) {
		a := args{v, truth, rng.IntN(4), 0, 0, rng.IntN(6)}
		for range rng.IntN(3) {
			switch rng.IntN(7) {
			case 0:
				a.truth = longer(a.truth, some())
			case 1:
				a.v.Start = longer(a.v.Start, some())
			case 2:
				a.v.Places, a.v.Pieces = some(), 6
			case 3:
				a.v.Pieces = some()
			case 4:
				a.v.Calls = append(slices.Clone(a.v.Calls), ints{some(), some()})
			case 5:
				a.v.Calls, a.truth = append(slices.Clone(a.v.Calls), ints{0}), longer(a.truth, 0)
			case 6:
				a.rule, a.call, a.piece, a.fetched = some(), some(), some(), some()
			}
		}
		for name, text := range a.results() {
			if !strings.HasSuffix(text, fmt.Sprint(api.OK)) && !slices.Contains(blank[name], text) {
				t.Fatalf("%s of %v: %s", name, a, text)
			}
		}
	})
	long := make(ints, 1<<20)
	refused(t, "a long truth", args{v: vaultV(), truth: long}, api.ErrMany, ofTruths()...)
	refused(t, "a long start", args{v: vaultOf(4, 6, long)}, api.ErrMany, names()...)
	refused(t, "a long call", args{v: vaultOf(4, 6, nil, long)}, api.ErrOrder, names()...)
	refused(t, "many calls", args{v: vaultOf(4, 6, nil, make([]ints, 1<<20)...)}, api.ErrMany, names()...)
}

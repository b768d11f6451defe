package claim_test

import (
	"fmt"
	"maps"
	"math"
	"math/rand/v2"
	"reflect"
	"slices"
	"strings"
	"sync"
	"testing"

	"gladstone/api"
	"gladstone/claim"
)

// args are arguments for all functions.
type args struct {
	c                               api.Claims
	claimant, piece, feature, value int
	list                            ints
}

// ordinary returns arguments of which none is wrong, and with which no function
// returns an error. The claimant 0 always has the piece 2, the claimant 1 has 0
// or 1, and the claimant 2 none.
func ordinary() args {
	c := of(2, 0, rows{{0, 0}, {0, 1}, {1, 1}, {2, -1}}, rows{{1, -1}, {0, -1}, {1, 0}})
	return args{c, 0, 1, 1, 2, ints{-1, 1, -1}}
}

// results returns what each function says, by its name. (A nil list is written as an empty one is.)
func (a args) results() map[string]string {
	return map[string]string{
		"Check":    fmt.Sprint(claim.Check(a.c)),
		"Mistakes": fmt.Sprint(claim.Mistakes(a.c, a.claimant, a.piece)),
		"Fits":     fmt.Sprint(claim.Fits(a.c, a.claimant)),
		"Value":    fmt.Sprint(claim.Value(a.c, a.list)),
		"Best":     fmt.Sprint(claim.Best(a.c)),
		"Count":    fmt.Sprint(claim.Count(a.c)),
		"Verdict":  fmt.Sprint(claim.Verdict(a.c, a.claimant, a.piece)),
		"Sure":     fmt.Sprint(claim.Sure(a.c)),
		"Cheats":   fmt.Sprint(claim.Cheats(a.c)),
		"Left":     fmt.Sprint(claim.Left(a.c)),
		"Short":    fmt.Sprint(claim.Short(a.c)),
		"Question": fmt.Sprint(claim.Question(a.c)),
		"Tell":     fmt.Sprint(claim.Tell(a.c, a.claimant, a.feature, a.value)),
		"Give":     fmt.Sprint(claim.Give(a.c, a.claimant)),
	}
}

// refusals returns what each function says with the error: all other results are zero values (R3).
func refusals(e api.Errno) map[string]string {
	nothing := ints{}
	return map[string]string{
		"Check":    fmt.Sprint(e),
		"Mistakes": fmt.Sprint(nothing, e),
		"Fits":     fmt.Sprint(nothing, e),
		"Value":    fmt.Sprint(0, 0, e),
		"Best":     fmt.Sprint(nothing, 0, 0, e),
		"Count":    fmt.Sprint(0, e),
		"Verdict":  fmt.Sprint(0, e),
		"Sure":     fmt.Sprint(nothing, e),
		"Cheats":   fmt.Sprint(nothing, e),
		"Left":     fmt.Sprint(nothing, e),
		"Short":    fmt.Sprint(nothing, e),
		"Question": fmt.Sprint(0, 0, 0, e),
		"Tell":     fmt.Sprint(api.Claims{}, e),
		"Give":     fmt.Sprint(api.Claims{}, e),
	}
}

// names returns the names of all functions.
func names() []string { return slices.Sorted(maps.Keys(refusals(api.OK))) }

// refused reports each of the functions that does not refuse the arguments with the error.
func refused(t *testing.T, what string, a args, e api.Errno, functions ...string) {
	t.Helper()
	got, wanted := a.results(), refusals(e)
	for _, name := range functions {
		if got[name] != wanted[name] {
			t.Errorf("%s: %s: %s; want %s", what, name, got[name], wanted[name])
		}
	}
}

// says reports results that are not the wanted ones; both are written down by fmt.Sprint.
func says(t *testing.T, what, got string, wanted ...any) {
	t.Helper()
	if text := fmt.Sprint(wanted...); got != text {
		t.Errorf("%s: %s; want %s", what, got, text)
	}
}

// numbers changes Features and Most, piece and tells a list.
func numbers(features, most int) func(c *api.Claims) {
	return func(c *api.Claims) { c.Features, c.Most = features, most }
}

func piece(i int, values ...int) func(c *api.Claims) {
	return func(c *api.Claims) { c.Pieces[i] = values }
}

func tells(i int, values ...int) func(c *api.Claims) {
	return func(c *api.Claims) { c.Told[i] = values }
}

// P7.1: the first error of claims, which all functions return first (R1, R3).
func TestCheck(t *testing.T) {
	none, five, six := make(rows, 4), make(rows, 5), make(rows, 6)
	for _, x := range []struct {
		what   string
		change func(c *api.Claims)
		want   api.Errno
	}{
		{"C", func(c *api.Claims) {}, api.OK},
		{"D", func(c *api.Claims) { *c = claimsD() }, api.OK},
		{"E", func(c *api.Claims) { *c = claimsE() }, api.OK},
		{"nothing", func(c *api.Claims) { *c = api.Claims{} }, api.ErrAmount},
		{"no feature", numbers(0, 1), api.ErrAmount},
		{"features -1", numbers(-1, 1), api.ErrAmount},
		{"a feature alone", func(c *api.Claims) { *c = of(1, 0, nil, nil) }, api.OK},
		{"four features", func(c *api.Claims) { *c = of(4, 2, nil, nil) }, api.OK},
		{"five features", func(c *api.Claims) { *c = of(5, 2, nil, nil) }, api.ErrAmount},
		{"Most -1", numbers(3, -1), api.ErrAmount},
		{"Most 0", numbers(3, 0), api.OK},
		{"Most 2", numbers(3, 2), api.OK},
		{"Most 3", numbers(3, 3), api.ErrAmount},
		{"Most 3, before Pieces", func(c *api.Claims) { *c = of(3, 3, five, nil) }, api.ErrAmount},
		{"no feature, before Pieces", func(c *api.Claims) { *c = of(0, 0, five, nil) }, api.ErrAmount},
		{"features 2, lists of 3", numbers(2, 1), api.ErrMany},
		{"features 4, lists of 3", numbers(4, 1), api.ErrFew},
		{"four pieces", func(c *api.Claims) { *c = of(1, 0, rows{{0}, {1}, {2}, {-1}}, nil) }, api.OK},
		{"five pieces", func(c *api.Claims) { *c = of(1, 0, rows{{0}, {1}, {2}, {-1}, {0}}, nil) }, api.ErrMany},
		{"five pieces, before what they are", func(c *api.Claims) { c.Pieces = five }, api.ErrMany},
		{"the pieces before the claimants", func(c *api.Claims) { *c = of(1, 0, none, six) }, api.ErrFew},
		{"the piece 0: 0 1", piece(0, 0, 1), api.ErrFew},
		{"the piece 0 has no values", piece(0), api.ErrFew},
		{"the piece 0: 0 1 2 0", piece(0, 0, 1, 2, 0), api.ErrMany},
		{"the piece 2: 0 1 2 0", piece(2, 0, 1, 2, 0), api.ErrMany},
		{"the piece 0: 3 1, its length first", piece(0, 3, 1), api.ErrFew},
		{"the piece 0: 3 1 2 0, its length first", piece(0, 3, 1, 2, 0), api.ErrMany},
		{"the piece 0: 0 1 3", piece(0, 0, 1, 3), api.ErrAmount},
		{"the piece 0: -2 1 2", piece(0, -2, 1, 2), api.ErrAmount},
		{"the piece 2: 0 -2 2", piece(2, 0, -2, 2), api.ErrAmount},
		{"the piece 0: -1 -1 -1", piece(0, -1, -1, -1), api.OK},
		{"the piece 0: 2 2 2", piece(0, 2, 2, 2), api.OK},
		{"the piece 0 before the piece 1", func(c *api.Claims) { c.Pieces[0][2], c.Pieces[1] = 3, nil }, api.ErrAmount},
		{"the piece 1 before the piece 2", func(c *api.Claims) { c.Pieces[1], c.Pieces[2][0] = nil, 3 }, api.ErrFew},
		{"pieces before five claimants", func(c *api.Claims) { c.Pieces[2][2], c.Told = -2, five }, api.ErrAmount},
		{"four claimants", func(c *api.Claims) { *c = of(1, 0, nil, rows{{0}, {1}, {2}, {-1}}) }, api.OK},
		{"five claimants", func(c *api.Claims) { *c = of(1, 0, nil, rows{{0}, {1}, {2}, {-1}, {0}}) }, api.ErrMany},
		{"five claimants, before what they told", func(c *api.Claims) { c.Told = five }, api.ErrMany},
		{"the claimant 0: 0 1 3", tells(0, 0, 1, 3), api.ErrAmount},
		{"the claimant 0: 0 1", tells(0, 0, 1), api.ErrFew},
		{"the claimant 3: 0 1", tells(3, 0, 1), api.ErrFew},
		{"the claimant 3: 0 1 2 0", tells(3, 0, 1, 2, 0), api.ErrMany},
		{"the claimant 3: 9 1, its length first", tells(3, 9, 1), api.ErrFew},
		{"the claimant 3: -2 0 0", tells(3, -2, 0, 0), api.ErrAmount},
		{"the claimant 3: -1 -1 -1", tells(3, -1, -1, -1), api.OK},
		{"the claimant 1 before the claimant 2", func(c *api.Claims) { c.Told[1], c.Told[2][0] = longer(c.Told[1], 0), 3 }, api.ErrMany},
		{"the greatest numbers", func(c *api.Claims) { *c = of(math.MaxInt, math.MaxInt, nil, nil) }, api.ErrAmount},
	} {
		a := args{with(claimsC(), x.change), -1, -1, -1, -1, make(ints, 9)}
		says(t, x.what, fmt.Sprint(claim.Check(a.c)), x.want)
		if x.want != api.OK {
			refused(t, x.what, a, x.want, names()...)
		}
	}
}

// The errors of what else a function is given, in their order (R1, R3).
func TestUnknown(t *testing.T) {
	all := []string{"Mistakes", "Fits", "Verdict", "Tell", "Give"}
	a := ordinary()
	for name, text := range a.results() {
		if name != "Check" && !strings.HasSuffix(text, fmt.Sprint(" ", api.OK)) {
			t.Errorf("%s of ordinary arguments: %s", name, text)
		}
	}
	for _, claimant := range []int{-1, 3, 4, math.MinInt, math.MaxInt} {
		refused(t, fmt.Sprint("claimant ", claimant), args{a.c, claimant, 1, 1, 2, nil}, api.ErrUnknown, all...)
		refused(t, fmt.Sprint("claimant ", claimant, ", first"), args{a.c, claimant, 9, 9, 9, nil}, api.ErrUnknown, all...)
	}
	for _, n := range []int{-1, 4, math.MinInt, math.MaxInt} {
		refused(t, fmt.Sprint("piece ", n), args{a.c, 0, n, 1, 2, nil}, api.ErrUnknown, "Mistakes", "Verdict")
	}
	for _, n := range []int{-1, 2, 3, math.MinInt, math.MaxInt} {
		refused(t, fmt.Sprint("feature ", n), args{a.c, 0, 1, n, 2, nil}, api.ErrUnknown, "Tell")
		refused(t, fmt.Sprint("feature ", n, ", before the value"), args{a.c, 0, 1, n, 3, nil}, api.ErrUnknown, "Tell")
		refused(t, fmt.Sprint("value ", min(n, -1)), args{a.c, 0, 1, 1, min(n, -1), nil}, api.ErrAmount, "Tell")
		refused(t, fmt.Sprint("value ", max(n, 3)), args{a.c, 0, 1, 1, max(n, 3), nil}, api.ErrAmount, "Tell")
		refused(t, fmt.Sprint("value ", max(n, 3), ", before what was told"), args{a.c, 0, 1, 0, max(n, 3), nil}, api.ErrAmount, "Tell")
	}
	for value := range 3 {
		refused(t, fmt.Sprint("told again ", value), args{a.c, 0, 1, 0, value, nil}, api.ErrRepeat, "Tell")
	}
	refused(t, "has one of two", args{a.c, 1, 0, 0, 0, nil}, api.ErrContrary, "Give")
	refused(t, "has none", args{a.c, 2, 0, 0, 0, nil}, api.ErrContrary, "Give")
	nobody, empty := args{c: claimsE()}, args{c: of(2, 0, nil, rows{{-1, -1}})}
	refused(t, "no claimant", nobody, api.ErrUnknown, all...)
	refused(t, "no piece", empty, api.ErrUnknown, "Mistakes", "Verdict")
	refused(t, "no piece", empty, api.ErrContrary, "Give")
	refused(t, "no claimant", nobody, api.ErrEmpty, "Short", "Question")
}

// P7.1: Mistakes and Fits.
func TestFits(t *testing.T) {
	known := of(4, 2, rows{{0, 1, 2, 0}, {-1, -1, -1, -1}, {1, 2, 0, 1}, {0, 1, 0, 1}}, rows{{0, 1, 2, 0}, {-1, -1, -1, -1}, {1, 1, 1, 1}})
	for _, x := range []struct {
		what     string
		c        api.Claims
		claimant int
		mistakes rows // for each piece
		fits     ints
	}{
		{"C", claimsC(), 0, rows{nil, nil, {0, 1}}, ints{0, 1}},
		{"C", claimsC(), 1, rows{nil, nil, {0, 2}}, ints{0, 1}},
		{"C", claimsC(), 2, rows{{0, 1, 2}, {0, 1}, {0}}, ints{2}},
		{"C", claimsC(), 3, rows{{0, 1}, {0, 1}, {0, 1, 2}}, nil},
		{"C, two mistakes", with(claimsC(), numbers(3, 2)), 3, rows{{0, 1}, {0, 1}, {0, 1, 2}}, ints{0, 1}},
		{"C, no mistake", with(claimsC(), numbers(3, 0)), 2, rows{{0, 1, 2}, {0, 1}, {0}}, nil},
		{"D", claimsD(), 0, rows{nil, nil}, ints{0, 1}},
		{"no piece", of(1, 0, nil, rows{{0}}), 0, nil, nil},
		{"four features", known, 0, rows{nil, nil, {0, 1, 2, 3}, {2, 3}}, ints{0, 1, 3}},
		{"nothing told", known, 1, rows{nil, nil, nil, nil}, ints{0, 1, 2, 3}},
		{"the same of all", known, 2, rows{{0, 2, 3}, nil, {1, 2}, {0, 2}}, ints{1, 2, 3}},
	} {
		what := fmt.Sprint(" of ", x.what, " ", x.claimant)
		says(t, "Fits"+what, fmt.Sprint(claim.Fits(x.c, x.claimant)), x.fits, api.OK)
		for piece, l := range x.mistakes {
			says(t, fmt.Sprint("Mistakes", what, " ", piece), fmt.Sprint(claim.Mistakes(x.c, x.claimant, piece)), l, api.OK)
		}
	}
}

// P7.2: Value.
func TestValue(t *testing.T) {
	open := of(2, 1, rows{{0, 0}, {0, 1}, {1, 0}, {1, 1}}, rows{{0, 0}, {-1, 1}, {1, 0}, {0, -1}})
	for _, x := range []struct {
		what            string
		c               api.Claims
		list            ints
		gives, mistakes int
		e               api.Errno
	}{
		{"C", claimsC(), ints{0, 1, 2, -1}, 3, 1, api.OK},
		{"C", claimsC(), ints{1, 0, 2, -1}, 3, 1, api.OK},
		{"C", claimsC(), ints{1, 0, -1, -1}, 2, 0, api.OK},
		{"C", claimsC(), ints{-1, -1, 2, -1}, 1, 1, api.OK},
		{"nobody", claimsC(), ints{-1, -1, -1, -1}, 0, 0, api.OK},
		{"a piece that does not fit", claimsC(), ints{2, 0, 1, -1}, 0, 0, api.ErrKind},
		{"one whom nothing fits", claimsC(), ints{-1, -1, -1, 0}, 0, 0, api.ErrKind},
		{"a piece twice", claimsC(), ints{0, 0, 2, -1}, 0, 0, api.ErrRepeat},
		{"a piece twice that does not fit", claimsC(), ints{0, -1, 0, -1}, 0, 0, api.ErrKind},
		{"the piece 5", claimsC(), ints{0, 5, 2, -1}, 0, 0, api.ErrUnknown},
		{"the piece 3", claimsC(), ints{0, 3, 2, -1}, 0, 0, api.ErrUnknown},
		{"the piece -2", claimsC(), ints{0, -2, 2, -1}, 0, 0, api.ErrUnknown},
		{"the least piece", claimsC(), ints{math.MinInt, 1, 2, -1}, 0, 0, api.ErrUnknown},
		{"the greatest piece", claimsC(), ints{math.MaxInt, 1, 2, -1}, 0, 0, api.ErrUnknown},
		{"no piece of one whom nothing fits", claimsC(), ints{0, 1, 2, 3}, 0, 0, api.ErrUnknown},
		{"too few", claimsC(), ints{0, 1}, 0, 0, api.ErrFew},
		{"none", claimsC(), nil, 0, 0, api.ErrFew},
		{"too few, before what they are", claimsC(), ints{9, 9, 9}, 0, 0, api.ErrFew},
		{"too many", claimsC(), ints{0, 1, 2, -1, -1}, 0, 0, api.ErrMany},
		{"too many, before what they are", claimsC(), ints{9, 2, 2, 2, 2}, 0, 0, api.ErrMany},
		{"the number 0 first", claimsC(), ints{2, 9, 9, 9}, 0, 0, api.ErrKind},
		{"the number 1 before others", claimsC(), ints{0, 0, 9, 0}, 0, 0, api.ErrRepeat},
		{"the number 2 before others", claimsC(), ints{-1, 0, 9, 0}, 0, 0, api.ErrUnknown},
		{"no claimant", claimsE(), nil, 0, 0, api.OK},
		{"a number for no claimant", claimsE(), ints{-1}, 0, 0, api.ErrMany},
		{"all", open, ints{0, 3, 2, 1}, 4, 0, api.OK},
		{"all, with mistakes", open, ints{1, 2, 3, 0}, 4, 3, api.OK},
		{"the last one twice", open, ints{0, 3, 2, 3}, 0, 0, api.ErrRepeat},
	} {
		says(t, fmt.Sprint("Value: ", x.what, " ", x.list), fmt.Sprint(claim.Value(x.c, x.list)), x.gives, x.mistakes, x.e)
	}
}

// crowd returns claims of four who fit two pieces, and of one more piece.
func crowd() api.Claims { return of(1, 0, rows{{1}, {0}, {1}}, rows{{1}, {1}, {1}, {1}}) }

// anything returns claims in which everything fits everyone.
func anything() api.Claims {
	blank := slices.Repeat(rows{{-1, -1, -1, -1}}, 4)
	return of(4, 0, cloned(blank), cloned(blank))
}

// P7.3 to P7.7: Best, Count, Verdict, Sure, Cheats, Left, Short and Question.
func TestBest(t *testing.T) {
	yes, no, may := api.Always, api.NoWay, api.Perhaps
	all := ints{may, may, may, may}
	for _, x := range []struct {
		what string
		c    api.Claims
		told
	}{
		{"C", claimsC(), told{ints{0, 1, 2, -1}, 3, 1, 2, rows{{may, may, no}, {may, may, no}, {no, no, yes}, {no, no, no}},
			ints{-1, -1, 2, -1}, ints{3}, nil, ints{3}, false, 0, 0, 0}},
		{"D", claimsD(), told{ints{0}, 1, 0, 2, rows{{may, may}}, ints{-1}, nil, nil, nil, true, 0, 1, 1}},
		{"E", claimsE(), told{nil, 0, 0, 1, nil, nil, nil, ints{0, 1}, nil, false, 0, 0, 0}},
		{"ordinary", ordinary().c, told{ints{2, 0, -1}, 2, 0, 2, rows{{no, no, yes, no}, {may, may, no, no}, {no, no, no, no}},
			ints{2, -1, -1}, ints{2}, ints{3}, ints{2}, true, 1, 1, 1}},
		{"a crowd", crowd(), told{ints{-1, -1, 0, 2}, 2, 0, 12, slices.Repeat(rows{{may, no, may}}, 4),
			ints{-1, -1, -1, -1}, nil, ints{1}, ints{0, 1, 2}, false, 0, 0, 0}},
		{"anything", anything(), told{ints{0, 1, 2, 3}, 4, 0, 24, rows{all, all, all, all},
			ints{-1, -1, -1, -1}, nil, nil, nil, false, 0, 0, 0}},
		{"no piece", of(1, 0, nil, rows{{0}, {1}}), told{ints{-1, -1}, 0, 0, 1, nil, ints{-1, -1}, ints{0, 1}, nil, ints{0}, false, 0, 0, 0}},
		{"more pieces before fewer mistakes", of(1, 1, rows{{0}, {1}}, rows{{0}, {0}}),
			told{ints{0, 1}, 2, 1, 2, rows{{may, may}, {may, may}}, ints{-1, -1}, nil, nil, nil, false, 0, 0, 0}},
		{"fewer mistakes before lesser numbers", of(1, 1, rows{{0}, {1}}, rows{{1}, {0}}),
			told{ints{1, 0}, 2, 0, 1, rows{{no, yes}, {yes, no}}, ints{1, 0}, nil, nil, nil, false, 0, 0, 0}},
		{"one who would fit gets nothing", of(1, 1, rows{{0}}, rows{{1}, {0}, {2}}),
			told{ints{-1, 0, -1}, 1, 0, 1, rows{{no}, {yes}, {no}}, ints{-1, 0, -1}, ints{0, 2}, nil, ints{0, 1}, false, 0, 0, 0}},
		{"a piece that would fit is left", of(1, 1, rows{{1}, {0}}, rows{{0}}),
			told{ints{1}, 1, 0, 1, rows{{no, yes}}, ints{1}, nil, ints{0}, nil, false, 0, 0, 0}},
		{"the first ones of as few", of(1, 0, rows{{0}, {1}}, rows{{0}, {1}, {1}, {0}}),
			told{ints{-1, -1, 1, 0}, 2, 0, 4, rows{{may, no}, {no, may}, {no, may}, {may, no}}, ints{-1, -1, -1, -1}, nil, nil, ints{0, 3}, false, 0, 0, 0}},
		{"fewer before the first ones", of(1, 0, rows{{0}, {0}}, rows{{0}, {0}, {0}, {1}}),
			told{ints{-1, 0, 1, -1}, 2, 0, 6, rows{{may, may}, {may, may}, {may, may}, {no, no}}, ints{-1, -1, -1, -1}, ints{3}, nil, ints{3}, false, 0, 0, 0}},
		{"all of four are short", of(1, 0, rows{{-1}, {-1}, {-1}}, rows{{0}, {1}, {2}, {0}}),
			told{ints{-1, 0, 1, 2}, 3, 0, 24, slices.Repeat(rows{{may, may, may}}, 4), ints{-1, -1, -1, -1}, nil, nil, ints{0, 1, 2, 3}, false, 0, 0, 0}},
		{"two answers leave two", of(1, 0, rows{{0}, {0}, {1}}, rows{{-1}}),
			told{ints{0}, 1, 0, 3, rows{{may, may, may}}, ints{-1}, nil, nil, nil, true, 0, 0, 2}},
		{"the greatest number of all answers", of(2, 0, rows{{0, 1}, {0, 2}, {0, 1}}, rows{{0, -1}}),
			told{ints{0}, 1, 0, 3, rows{{may, may, may}}, ints{-1}, nil, nil, nil, true, 0, 1, 2}},
		{"an answer leaves as many", of(1, 0, rows{{0}, {1}}, rows{{-1}, {-1}}),
			told{ints{0, 1}, 2, 0, 2, rows{{may, may}, {may, may}}, ints{-1, -1}, nil, nil, nil, false, 0, 0, 0}},
		{"the first claimant who helps as much", of(1, 0, rows{{0}, {1}, {2}}, rows{{-1}, {-1}}),
			told{ints{0, 1}, 2, 0, 6, rows{{may, may, may}, {may, may, may}}, ints{-1, -1}, nil, nil, nil, true, 0, 0, 2}},
		{"the first feature that helps as much", of(3, 0, rows{{0, 0, 2}, {0, 1, 1}}, rows{{0, -1, -1}}),
			told{ints{0}, 1, 0, 2, rows{{may, may}}, ints{-1}, nil, nil, nil, true, 0, 1, 1}},
		{"only a later claimant helps", of(2, 0, rows{{0, 0}, {0, 0}, {1, 0}, {1, 1}}, rows{{0, -1}, {1, -1}}),
			told{ints{0, 2}, 2, 0, 4, rows{{may, may, no, no}, {no, no, may, may}}, ints{-1, -1}, nil, nil, nil, true, 1, 1, 2}},
		{"a later feature helps more", of(2, 0, rows{{0, 0}, {0, 1}, {1, 2}}, rows{{-1, -1}}),
			told{ints{0}, 1, 0, 3, rows{{may, may, may}}, ints{-1}, nil, nil, nil, true, 0, 1, 1}},
	} {
		told := x.told
		if !told.asks {
			told.to = told.count
		}
		tellsAll(t, " of "+x.what, x.c, told)
	}
}

// tellsAll reports what is not said of the claims as it should be.
func tellsAll(t *testing.T, what string, c api.Claims, x told) {
	t.Helper()
	says(t, "Best"+what, fmt.Sprint(claim.Best(c)), x.best, x.gives, x.mistakes, api.OK)
	says(t, "Count"+what, fmt.Sprint(claim.Count(c)), x.count, api.OK)
	for claimant, l := range x.verdicts {
		for piece, verdict := range l {
			says(t, fmt.Sprint("Verdict", what, " ", claimant, " ", piece), fmt.Sprint(claim.Verdict(c, claimant, piece)), verdict, api.OK)
		}
	}
	says(t, "Sure"+what, fmt.Sprint(claim.Sure(c)), x.sure, api.OK)
	says(t, "Cheats"+what, fmt.Sprint(claim.Cheats(c)), x.cheats, api.OK)
	says(t, "Left"+what, fmt.Sprint(claim.Left(c)), x.left, api.OK)
	if e := api.ErrEmpty; x.short == nil {
		says(t, "Short"+what, fmt.Sprint(claim.Short(c)), ints{}, e)
	} else {
		says(t, "Short"+what, fmt.Sprint(claim.Short(c)), x.short, api.OK)
	}
	if e := api.ErrEmpty; !x.asks {
		says(t, "Question"+what, fmt.Sprint(claim.Question(c)), 0, 0, 0, e)
	} else {
		says(t, "Question"+what, fmt.Sprint(claim.Question(c)), x.claimant, x.feature, x.to, api.OK)
	}
}

// P7.8: Tell and Give.
func TestTell(t *testing.T) {
	told := func(value int) api.Claims { return with(claimsD(), tells(0, 0, value)) }
	for value := range 3 {
		says(t, fmt.Sprint("D tells ", value), fmt.Sprint(claim.Tell(claimsD(), 0, 1, value)), told(value), api.OK)
	}
	says(t, "C tells", fmt.Sprint(claim.Tell(claimsC(), 1, 1, 0)), with(claimsC(), tells(1, 0, 0, 2)), api.OK)
	says(t, "D tells again", fmt.Sprint(claim.Tell(claimsD(), 0, 0, 0)), api.Claims{}, api.ErrRepeat)
	says(t, "D tells 3", fmt.Sprint(claim.Tell(claimsD(), 0, 1, 3)), api.Claims{}, api.ErrAmount)
	says(t, "D tells of no feature", fmt.Sprint(claim.Tell(claimsD(), 0, 2, 0)), api.Claims{}, api.ErrUnknown)
	says(t, "nothing there", fmt.Sprint(claim.Tell(of(1, 2, nil, rows{{-1}}), 0, 0, 2)), of(1, 2, nil, rows{{2}}), api.OK)
}

func TestGive(t *testing.T) {
	one := rows{{1}, {0}, {2}}
	for _, x := range []struct {
		what     string
		c        api.Claims
		claimant int
		want     api.Claims
		e        api.Errno
	}{
		{"C, the last piece", claimsC(), 2, of(3, 1, rows{{0, 1, 2}, {0, 1, -1}}, rows{{0, 1, -1}, {0, -1, 2}, {2, 2, 2}}), api.OK},
		{"C, one of two pieces", claimsC(), 0, api.Claims{}, api.ErrContrary},
		{"C, no piece", claimsC(), 3, api.Claims{}, api.ErrContrary},
		{"the first claimant, the last piece", of(1, 0, one, rows{{2}, {0}, {1}}), 0, of(1, 0, one[:2], rows{{0}, {1}}), api.OK},
		{"the last claimant, the first piece", of(1, 0, one, rows{{2}, {0}, {1}}), 2, of(1, 0, one[1:], rows{{2}, {0}}), api.OK},
		{"in the middle", of(1, 0, one, rows{{2}, {0}, {1}}), 1, of(1, 0, rows{{1}, {2}}, rows{{2}, {1}}), api.OK},
		{"the only one", of(4, 2, rows{{0, 1, 2, 0}}, rows{{0, 1, 0, 1}}), 0, of(4, 2, nil, nil), api.OK},
		{"always something", crowd(), 3, api.Claims{}, api.ErrContrary},
	} {
		says(t, "Give: "+x.what, fmt.Sprint(claim.Give(x.c, x.claimant)), x.want, x.e)
	}
}

// R2, R4, R6: a call depends on its arguments alone, and changes none of them.
func TestAgain(t *testing.T) {
	roomy := func(l ints) ints { return append(make(ints, 0, 8), l...) }
	wide := func(l rows) rows {
		all := make(rows, 0, 8)
		for _, x := range l {
			all = append(all, roomy(x))
		}
		return all
	}
	for _, x := range []args{ordinary(), {anything(), 3, 3, 3, 2, ints{3, 2, 1, 0}}} {
		a := x
		a.c.Pieces, a.c.Told, a.list = wide(x.c.Pieces), wide(x.c.Told), roomy(x.list)
		before := a.results()
		var group sync.WaitGroup
		for range 4 {
			group.Go(func() {
				for range 20 {
					if again := a.results(); !maps.Equal(again, before) {
						t.Errorf("%v; before %v", again, before)
					}
				}
			})
		}
		group.Wait()
		if !reflect.DeepEqual(a, x) {
			t.Error("arguments are changed:", a)
		}
		for _, l := range slices.Concat(rows{a.list}, a.c.Pieces, a.c.Told) {
			if behind := l[len(l):8]; !slices.Equal(behind, make(ints, len(behind))) {
				t.Error("what is behind arguments is changed:", behind)
			}
		}
		for _, l := range []rows{a.c.Pieces, a.c.Told} {
			if behind := l[len(l):8]; slices.ContainsFunc(behind, func(x ints) bool { return x != nil }) {
				t.Error("what is behind the lists is changed:", behind)
			}
		}
	}
}

// R4: no result shares memory with an argument, or another result.
func TestMemory(t *testing.T) {
	a := args{claimsC(), 2, 0, 1, 1, ints{0, 1, 2, -1}}
	a.c.Told[2][1] = -1
	before := a.results()
	var lists []ints
	keep := func(l ints, e api.Errno) {
		if e != api.OK || len(l) == 0 {
			t.Error("nothing to look at:", l, e)
		}
		lists = append(lists, l)
	}
	keepAll := func(c api.Claims, e api.Errno) {
		for _, l := range slices.Concat(c.Pieces, c.Told) {
			keep(l, e)
		}
		for _, l := range []rows{c.Pieces, c.Told} {
			clear(l)
			_ = append(l, ints{-9})
		}
	}
	for range 2 {
		best, _, _, e := claim.Best(a.c)
		keep(best, e)
		keep(claim.Mistakes(a.c, 2, 0))
		keep(claim.Fits(a.c, 0))
		keep(claim.Sure(a.c))
		keep(claim.Cheats(a.c))
		keep(claim.Left(claimsE()))
		keep(claim.Short(a.c))
		keepAll(claim.Tell(a.c, 2, 1, 2))
		keepAll(claim.Give(a.c, 2))
	}
	for i, l := range lists {
		for k := range l {
			l[k] = -10 - i
		}
		_ = append(l, -9)
	}
	for i, l := range lists {
		if slices.Min(l) != -10-i || slices.Max(l) != -10-i {
			t.Error("results share memory:", lists)
		}
	}
	if again := a.results(); !maps.Equal(again, before) {
		t.Errorf("%v; before %v", again, before)
	}
}

// R4: a nil slice and an empty one mean the same.
func TestNothing(t *testing.T) {
	for _, x := range [][2]args{
		{{c: of(1, 0, nil, nil)}, {c: of(1, 0, rows{}, rows{}), list: ints{}}},
		{{c: of(1, 0, rows{{0}}, nil)}, {c: of(1, 0, rows{{0}}, rows{}), list: ints{}}},
		{{c: of(1, 0, nil, rows{{-1}})}, {c: of(1, 0, rows{}, rows{{-1}}), list: ints{}}},
		{{c: of(1, 0, rows{nil}, nil)}, {c: of(1, 0, rows{{}}, nil)}},
		{{c: of(1, 0, nil, rows{nil})}, {c: of(1, 0, nil, rows{{}})}},
	} {
		if a, b := x[0].results(), x[1].results(); !maps.Equal(a, b) {
			t.Error(a, b)
		}
	}
}

// P1, R5: whatever the arguments are, a function returns, with zero values beside an error.
func TestAnything(t *testing.T) {
	rng := rand.New(rand.NewPCG(7, 7))
	odd := ints{math.MinInt, math.MinInt + 1, -3, -2, -1, 0, 1, 2, 3, 4, 5, 8, 64, 1 << 32, math.MaxInt - 1, math.MaxInt}
	some := func() int { return odd[rng.IntN(len(odd))] }
	blank := map[string][]string{} // what a function may say if there is an error
	for e := api.OK + 1; e <= api.ErrClosed; e++ {
		for name, text := range refusals(e) {
			blank[name] = append(blank[name], text)
		}
	}
	change := func(l rows) rows {
		l = cloned(l)
		if len(l) == 0 || rng.IntN(4) == 0 {
			return append(l, ints{some()})
		}
		i := rng.IntN(len(l))
		switch rng.IntN(3) {
		case 0:
			l[i] = longer(l[i], some())
		case 1:
			l[i] = l[i][:len(l[i])-1]
		case 2:
			l[i][rng.IntN(len(l[i]))] = some()
		}
		return l
	}
	for range 6000 {
		a := args{drawn(rng), some(), some(), some(), some(), nil}
		for range a.c.Told {
			a.list = append(a.list, some())
		}
		switch rng.IntN(8) {
		case 0:
			a.list = longer(a.list, some())
		case 1:
			a.c.Features = some()
		case 2:
			a.c.Most = some()
		case 3:
			a.c.Pieces = change(a.c.Pieces)
		case 4:
			a.c.Told = change(a.c.Told)
		}
		for name, text := range a.results() {
			if !strings.HasSuffix(text, fmt.Sprint(api.OK)) && !slices.Contains(blank[name], text) {
				t.Fatalf("%s of %v: %s", name, a, text)
			}
		}
	}
	long, many := make(ints, 1<<20), make(rows, 1<<20)
	refused(t, "a long list of pieces", args{c: of(1, 0, many, nil)}, api.ErrMany, names()...)
	refused(t, "a long list of claimants", args{c: of(1, 0, nil, many)}, api.ErrMany, names()...)
	refused(t, "a long list of features", args{c: of(1, 0, rows{long}, nil)}, api.ErrMany, names()...)
	refused(t, "a long list of what was told", args{c: of(1, 0, nil, rows{long})}, api.ErrMany, names()...)
	refused(t, "a long assignment", args{c: claimsC(), list: long}, api.ErrMany, "Value")
}

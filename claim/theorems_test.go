package claim_test

import (
	"fmt"
	"math/rand/v2"
	"slices"
	"testing"

	"gladstone/api"
	"gladstone/claim"
)

// sure returns a result that comes without an error.
func sure[T any](x T, e api.Errno) T {
	if e != api.OK {
		panic(e)
	}
	return x
}

// gainOf returns how many pieces the best assignments give, and with how many mistakes.
func gainOf(c api.Claims) (gives, mistakes int) {
	_, gives, mistakes, e := claim.Best(c)
	return gives, sure(mistakes, e)
}

// enough reports a test that had too few cases.
func enough(t *testing.T, cases, least int) {
	t.Helper()
	if cases < least {
		t.Error("too few cases:", cases)
	}
}

// P7.1, P7.2: Mistakes, Fits and Value, as the chapter says them.
func TestAllValues(t *testing.T) {
	draws(2000, func(rng *rand.Rand, c api.Claims) {
		says(t, fmt.Sprint("Check ", c), fmt.Sprint(claim.Check(c)), api.OK)
		for claimant := range c.Told {
			says(t, fmt.Sprint("Fits ", c, claimant), fmt.Sprint(claim.Fits(c, claimant)), fitsOf(c, claimant), api.OK)
			for piece := range c.Pieces {
				what := fmt.Sprint("Mistakes ", c, claimant, piece)
				says(t, what, fmt.Sprint(claim.Mistakes(c, claimant, piece)), mistakesOf(c, claimant, piece), api.OK)
			}
		}
		all := lists(len(c.Told), len(c.Pieces)-1)
		for range 20 {
			l := all[rng.IntN(len(all))]
			gives, mistakes := valueOf(c, l)
			_, _, e := claim.Value(c, l)
			if isAssignment(c, l) {
				says(t, fmt.Sprint("Value ", c, l), fmt.Sprint(claim.Value(c, l)), gives, mistakes, api.OK)
			} else if want := errorOf(c, l); e != want {
				t.Error("Value", c, l, e, want)
			}
		}
		if t.Failed() {
			t.FailNow()
		}
	})
}

// errorOf returns the first error of a list of pieces that is no assignment.
func errorOf(c api.Claims, l ints) api.Errno {
	for claimant, piece := range l {
		switch {
		case piece == -1:
		case !slices.Contains(fitsOf(c, claimant), piece):
			return api.ErrKind
		case slices.Contains(l[:claimant], piece):
			return api.ErrRepeat
		}
	}
	return api.OK
}

// P7.3 to P7.7, P7.9: what all assignments say.
func TestAll(t *testing.T) {
	asked := 0
	draws(3000, func(rng *rand.Rand, c api.Claims) {
		x := tellOf(c)
		tellsAll(t, fmt.Sprint(" ", c), c, x)
		if t.Failed() {
			t.FailNow()
		}
		if x.asks {
			asked++
		}
	})
	enough(t, asked, 200)
}

// P7.10: short.
func TestShort(t *testing.T) {
	lacking := 0
	draws(3000, func(rng *rand.Rand, c api.Claims) {
		gives, _ := gainOf(c)
		l, e := claim.Short(c)
		if nobody := len(c.Told) - gives; (nobody > 0) != (e == api.OK) {
			t.Fatal("some get nothing", c, gives, l, e)
		}
		most := 0
		for _, group := range groups(len(c.Told)) {
			n := lackOf(c, group)
			most = max(most, n)
			if n > 0 && (len(group) < len(l) || len(group) == len(l) && slices.Compare(group, l) < 0) {
				t.Fatal("fewer or before", c, l, group)
			}
		}
		if gives+most != len(c.Told) || e == api.OK && (lackOf(c, l) < 1 || !slices.IsSorted(l)) {
			t.Fatal("how many", c, gives, most, l, e)
		}
		if most > 1 {
			lacking++
		}
	})
	enough(t, lacking, 100)
}

// P7.11: sure.
func TestSure(t *testing.T) {
	draws(3000, func(rng *rand.Rand, c api.Claims) {
		pieces, cheats, left := sure(claim.Sure(c)), sure(claim.Cheats(c)), sure(claim.Left(c))
		for claimant, piece := range pieces {
			if piece == -1 {
				continue
			}
			if slices.Contains(pieces[:claimant], piece) || slices.Contains(cheats, claimant) || slices.Contains(left, piece) {
				t.Fatal(c, pieces, cheats, left)
			}
			if v := sure(claim.Verdict(c, claimant, piece)); v != api.Always {
				t.Fatal(c, pieces, claimant, v)
			}
		}
	})
}

// P7.12, P7.13: a piece more, a claimant more.
func TestMore(t *testing.T) {
	draws(3000, func(rng *rand.Rand, c api.Claims) {
		few, _ := gainOf(c)
		more := func(larger api.Claims) {
			if len(larger.Pieces) > api.ClaimPieces || len(larger.Told) > api.ClaimTold {
				return
			}
			if many, _ := gainOf(larger); many != few && many != few+1 {
				t.Fatal(c, larger, few, many)
			}
		}
		row := func() ints {
			var l ints
			for range c.Features {
				l = append(l, rng.IntN(api.ClaimValue+2)-1)
			}
			return l
		}
		more(with(c, func(c *api.Claims) {
			c.Pieces = slices.Insert(c.Pieces, rng.IntN(len(c.Pieces)+1), row())
		}))
		more(with(c, func(c *api.Claims) {
			c.Told = slices.Insert(c.Told, rng.IntN(len(c.Told)+1), row())
		}))
	})
}

// P7.14: more mistakes.
func TestMoreMistakes(t *testing.T) {
	draws(3000, func(rng *rand.Rand, c api.Claims) {
		before := 0
		for most := range api.ClaimMost + 1 {
			gives, _ := gainOf(with(c, func(c *api.Claims) { c.Most = most }))
			if gives < before {
				t.Fatal(c, most, before, gives)
			}
			before = gives
		}
	})
}

// P7.15: told.
func TestTold(t *testing.T) {
	draws(3000, func(rng *rand.Rand, c api.Claims) {
		if len(c.Told) == 0 {
			return
		}
		claimant, feature := rng.IntN(len(c.Told)), rng.IntN(c.Features)
		said, e := claim.Tell(c, claimant, feature, rng.IntN(api.ClaimValue+1))
		if known := c.Told[claimant][feature] != -1; known != (e == api.ErrRepeat) || !known && e != api.OK {
			t.Fatal("Tell", c, claimant, feature, e)
		}
		if e != api.OK {
			return
		}
		few, many := sure(claim.Fits(said, claimant)), sure(claim.Fits(c, claimant))
		less, _ := gainOf(said)
		more, _ := gainOf(c)
		if less > more || slices.ContainsFunc(few, func(piece int) bool { return !slices.Contains(many, piece) }) {
			t.Fatal(c, said, few, many, less, more)
		}
	})
}

// P7.16: true.
func TestTrue(t *testing.T) {
	draws(3000, func(rng *rand.Rand, c api.Claims) {
		own, wrong := rng.Perm(len(c.Pieces)), 0
		own = own[:rng.IntN(len(own)+1)]
		c.Told = nil
		for claimant, piece := range own {
			l := slices.Clone(c.Pieces[piece])
			for range rng.IntN(c.Most + 1) {
				l[rng.IntN(c.Features)] = rng.IntN(api.ClaimValue + 1)
			}
			l[rng.IntN(c.Features)] = -1
			c.Told = append(c.Told, l)
			wrong += len(mistakesOf(c, claimant, piece))
		}
		if gives, mistakes := gainOf(c); gives != len(own) || mistakes > wrong {
			t.Fatal(c, own, gives, mistakes, wrong)
		}
		says(t, "Value", fmt.Sprint(claim.Value(c, own)), len(own), wrong, api.OK)
	})
}

// P7.17: given.
func TestGiven(t *testing.T) {
	given := 0
	draws(3000, func(rng *rand.Rand, c api.Claims) {
		gives, mistakes := gainOf(c)
		for claimant, piece := range sure(claim.Sure(c)) {
			rest, e := claim.Give(c, claimant)
			if (piece == -1) != (e == api.ErrContrary) || piece != -1 && e != api.OK {
				t.Fatal("Give", c, claimant, piece, e)
			}
			if e != api.OK {
				continue
			}
			given++
			wrong := len(sure(claim.Mistakes(c, claimant, piece)))
			if g, m := gainOf(rest); g != gives-1 || m != mistakes-wrong || sure(claim.Count(rest)) != sure(claim.Count(c)) {
				t.Fatal("the others", c, rest, claimant, piece)
			}
			want := with(c, func(c *api.Claims) {
				c.Told, c.Pieces = slices.Delete(c.Told, claimant, claimant+1), slices.Delete(c.Pieces, piece, piece+1)
			})
			says(t, fmt.Sprint("Give ", c, claimant), fmt.Sprint(rest), want)
		}
	})
	enough(t, given, 500)
}

// P7.18: question.
func TestQuestion(t *testing.T) {
	asked := 0
	draws(3000, func(rng *rand.Rand, c api.Claims) {
		claimant, feature, left, e := claim.Question(c)
		if e != api.OK {
			left = sure(claim.Count(c))
		} else {
			asked++
		}
		for other := range c.Told {
			for about := range c.Features {
				most := 0
				for value := range api.ClaimValue + 1 {
					said, e := claim.Tell(c, other, about, value)
					if e == api.OK {
						most = max(most, sure(claim.Count(said)))
					}
				}
				is := e == api.OK && other == claimant && about == feature
				switch {
				case c.Told[other][about] != -1:
					if is {
						t.Fatal("was told", c, claimant, feature)
					}
				case is && most != left:
					t.Fatal("leaves", c, claimant, feature, left, most)
				case most < left:
					t.Fatal("better", c, claimant, feature, left, other, about, most)
				}
			}
		}
	})
	enough(t, asked, 200)
}

// P7.19: renumbered.
func TestRenumbered(t *testing.T) {
	draws(3000, func(rng *rand.Rand, c api.Claims) {
		numbers := rng.Perm(len(c.Pieces))
		other := with(c, func(x *api.Claims) {
			for piece, n := range numbers {
				x.Pieces[n] = slices.Clone(c.Pieces[piece])
			}
		})
		gives, mistakes := gainOf(c)
		g, m := gainOf(other)
		if g != gives || m != mistakes || sure(claim.Count(other)) != sure(claim.Count(c)) {
			t.Fatal(c, other, gives, mistakes, g, m)
		}
		for claimant, piece := range sure(claim.Sure(c)) {
			if piece != -1 && sure(claim.Sure(other))[claimant] != numbers[piece] {
				t.Fatal("Sure", c, other, claimant, piece)
			}
		}
	})
}

// P7.20: values.
func TestRenamed(t *testing.T) {
	draws(3000, func(rng *rand.Rand, c api.Claims) {
		feature, names := rng.IntN(c.Features), rng.Perm(api.ClaimValue+1)
		rename := func(c *api.Claims) {
			for _, l := range slices.Concat(c.Pieces, c.Told) {
				if l[feature] != -1 {
					l[feature] = names[l[feature]]
				}
			}
		}
		all := lists(len(c.Told), len(c.Pieces)-1)
		a := args{c: c, claimant: rng.IntN(4), piece: rng.IntN(4), list: all[rng.IntN(len(all))]}
		b := a
		b.c = with(c, rename)
		before, after := a.results(), b.results()
		for name, text := range before {
			if name != "Tell" && name != "Give" && after[name] != text {
				t.Fatal(name, c, b.c, text, after[name])
			}
		}
		rest, e := claim.Give(c, a.claimant)
		if e == api.OK {
			says(t, "Give", fmt.Sprint(claim.Give(b.c, b.claimant)), with(rest, rename), e)
		}
	})
}

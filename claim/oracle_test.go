package claim_test

import (
	"math/rand/v2"
	"slices"

	"gladstone/api"
)

type (
	ints = []int
	rows = [][]int
)

func of(features, most int, pieces, told rows) api.Claims {
	return api.Claims{Features: features, Most: most, Pieces: pieces, Told: told}
}

// claimsC, claimsD and claimsE are C, D and E of the chapter's examples.
func claimsC() api.Claims {
	return of(3, 1, rows{{0, 1, 2}, {0, 1, -1}, {1, 0, 0}}, rows{{0, 1, -1}, {0, -1, 2}, {2, 0, 0}, {2, 2, 2}})
}

func claimsD() api.Claims { return of(2, 0, rows{{0, 0}, {0, 1}}, rows{{0, -1}}) }

func claimsE() api.Claims { return of(2, 0, rows{{0, 0}, {0, 1}}, nil) }

// with returns a copy of claims with a change.
func with(c api.Claims, change func(c *api.Claims)) api.Claims {
	c.Pieces, c.Told = cloned(c.Pieces), cloned(c.Told)
	change(&c)
	return c
}

func cloned(l rows) rows {
	var all rows
	for _, x := range l {
		all = append(all, slices.Clone(x))
	}
	return all
}

// longer returns a new list with one number more.
func longer(l ints, n int) ints { return append(slices.Clone(l), n) }

// mistakesOf returns the features about which a claimant is mistaken.
func mistakesOf(c api.Claims, claimant, piece int) ints {
	var l ints
	for feature := range c.Features {
		known, told := c.Pieces[piece][feature], c.Told[claimant][feature]
		if known >= 0 && told >= 0 && known != told {
			l = append(l, feature)
		}
	}
	return l
}

// fitsOf returns the pieces that fit a claimant.
func fitsOf(c api.Claims, claimant int) ints {
	var l ints
	for piece := range c.Pieces {
		if len(mistakesOf(c, claimant, piece)) <= c.Most {
			l = append(l, piece)
		}
	}
	return l
}

// isAssignment returns whether a list is an assignment.
func isAssignment(c api.Claims, l ints) bool {
	for claimant, piece := range l {
		if piece != -1 && (!slices.Contains(fitsOf(c, claimant), piece) || slices.Contains(l[:claimant], piece)) {
			return false
		}
	}
	return true
}

// lists returns all lists of so many numbers from -1 up to a number, in lexicographic order.
func lists(length, to int) rows {
	all := rows{nil}
	for range length {
		var more rows
		for _, l := range all {
			for n := -1; n <= to; n++ {
				more = append(more, longer(l, n))
			}
		}
		all = more
	}
	return all
}

// valueOf returns how many pieces an assignment gives, and its mistakes.
func valueOf(c api.Claims, l ints) (gives, mistakes int) {
	for claimant, piece := range l {
		if piece != -1 {
			gives++
			mistakes += len(mistakesOf(c, claimant, piece))
		}
	}
	return gives, mistakes
}

// bestOf returns the best assignments, in lexicographic order: of all lists those
// that are assignments, and of these those of which no other one is better.
func bestOf(c api.Claims) rows {
	all := slices.DeleteFunc(lists(len(c.Told), len(c.Pieces)-1), func(l ints) bool { return !isAssignment(c, l) })
	most, fewest := 0, 0
	for _, l := range all {
		if gives, mistakes := valueOf(c, l); gives > most || gives == most && mistakes < fewest {
			most, fewest = gives, mistakes
		}
	}
	return slices.DeleteFunc(all, func(l ints) bool {
		gives, mistakes := valueOf(c, l)
		return gives != most || mistakes != fewest
	})
}

// groups returns all lists of some of so many claimants, those of fewer before others.
func groups(claimants int) rows {
	all := rows{nil}
	for n := range claimants {
		for _, l := range all {
			all = append(all, longer(l, n))
		}
	}
	slices.SortFunc(all, func(a, b ints) int {
		if len(a) != len(b) {
			return len(a) - len(b)
		}
		return slices.Compare(a, b)
	})
	return all
}

// lackOf returns by how many claimants are more than the pieces that fit some of them.
func lackOf(c api.Claims, claimants ints) int {
	fit := map[int]bool{}
	for _, claimant := range claimants {
		for _, piece := range fitsOf(c, claimant) {
			fit[piece] = true
		}
	}
	return len(claimants) - len(fit)
}

// saying returns a copy of claims in which a claimant tells a value of a feature.
func saying(c api.Claims, claimant, feature, value int) api.Claims {
	return with(c, func(c *api.Claims) { c.Told[claimant][feature] = value })
}

// mostOf returns the greatest number of best assignments, whatever a claimant tells of a feature.
func mostOf(c api.Claims, claimant, feature int) int {
	most := 0
	for value := range api.ClaimValue + 1 {
		most = max(most, len(bestOf(saying(c, claimant, feature, value))))
	}
	return most
}

// told is what all assignments of claims say.
type told struct {
	best                  ints
	gives, mistakes       int
	count                 int
	verdicts              rows // for each claimant and each piece
	sure, cheats, left    ints
	short                 ints // nil if no claimants are short
	asks                  bool
	claimant, feature, to int // if asks
}

// tellOf returns what all assignments of the claims say.
func tellOf(c api.Claims) told {
	all := bestOf(c)
	x := told{best: all[0], count: len(all)}
	x.gives, x.mistakes = valueOf(c, all[0])
	taken := map[int]bool{}
	for claimant := range c.Told {
		var verdicts ints
		for piece := range c.Pieces {
			verdicts = append(verdicts, verdictOf(all, claimant, piece))
		}
		x.verdicts = append(x.verdicts, verdicts)
		x.sure = append(x.sure, slices.Index(verdicts, api.Always))
		if verdictOf(all, claimant, -1) == api.Always {
			x.cheats = append(x.cheats, claimant)
		}
		for _, l := range all {
			taken[l[claimant]] = true
		}
	}
	for piece := range c.Pieces {
		if !taken[piece] {
			x.left = append(x.left, piece)
		}
	}
	for _, l := range slices.Backward(groups(len(c.Told))) {
		if lackOf(c, l) > 0 {
			x.short = l
		}
	}
	x.to = x.count
	for claimant := range c.Told {
		for feature := range c.Features {
			if c.Told[claimant][feature] != -1 {
				continue
			}
			if n := mostOf(c, claimant, feature); n < x.to {
				x.asks, x.claimant, x.feature, x.to = true, claimant, feature, n
			}
		}
	}
	return x
}

// verdictOf returns whether the claimant has the piece (or -1) in all of the lists, in none, or in some.
func verdictOf(all rows, claimant, piece int) int {
	some, always := false, true
	for _, l := range all {
		some, always = some || l[claimant] == piece, always && l[claimant] == piece
	}
	switch {
	case always:
		return api.Always
	case some:
		return api.Perhaps
	}
	return api.NoWay
}

// drawn returns valid claims. Claimants often tell of a piece that is there, with a few mistakes.
func drawn(rng *rand.Rand) api.Claims {
	c := api.Claims{Features: 1 + rng.IntN(api.ClaimFeatures), Most: min(rng.IntN(api.ClaimMost+1), rng.IntN(api.ClaimMost+1))}
	values, gaps := 1+rng.IntN(api.ClaimValue+1), 2+rng.IntN(4)
	some := func() int {
		if rng.IntN(gaps) == 0 {
			return -1
		}
		return rng.IntN(values)
	}
	row := func() ints {
		var l ints
		for range c.Features {
			l = append(l, some())
		}
		return l
	}
	for range min(api.ClaimPieces, rng.IntN(api.ClaimPieces+3)) {
		c.Pieces = append(c.Pieces, row())
	}
	for range min(api.ClaimTold, rng.IntN(api.ClaimTold+3)) {
		c.Told = append(c.Told, row())
		if len(c.Pieces) == 0 || rng.IntN(4) == 0 {
			continue
		}
		l := slices.Clone(c.Pieces[rng.IntN(len(c.Pieces))])
		for range rng.IntN(3) {
			l[rng.IntN(c.Features)] = some()
		}
		c.Told[len(c.Told)-1] = l
	}
	return c
}

// draws calls try with many valid claims, always the same ones.
func draws(count int, try func(rng *rand.Rand, c api.Claims)) {
	rng := rand.New(rand.NewPCG(7, uint64(count)))
	for range count {
		try(rng, drawn(rng))
	}
}

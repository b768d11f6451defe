package barrow_test

import (
	"math/rand/v2"
	"testing"

	"gladstone/api"
	"gladstone/barrow"
	"gladstone/vault"
)

// T8: carried.
func TestCarried(t *testing.T) {
	carried := 0
	draws(4000, 8, func(rng *rand.Rand, h api.Haul, minutes int) {
		_, fewest, e := vault.Best(h.Vault, h.Truth)
		for rule := api.RuleLow; rule <= api.RuleLate; rule++ {
			jobs := len(sure(barrow.Jobs(withRule(h, rule))))
			if e != api.OK || jobs < fewest || rule == api.RuleLate && jobs != fewest {
				t.Fatal(h, rule, jobs, fewest, e)
			}
			known := withRule(withNotice(h, minutes), rule)
			if jobs > api.BarrowMost {
				continue
			}
			for barrows := max(1, jobs); barrows <= api.BarrowMost; barrows++ {
				if !can(withBarrows(known, barrows), minutes) {
					t.Fatal("late", known, barrows, minutes)
				}
				carried++
			}
		}
	})
	if carried < 4000 {
		t.Fatal("too few hauls have a barrow for each job:", carried)
	}
}

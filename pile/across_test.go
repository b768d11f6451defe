package pile_test

import (
	"fmt"
	"math/rand/v2"
	"slices"
	"testing"

	"gladstone/api"
	"gladstone/pile"
	"gladstone/shelf"
)

// hourly returns a lane of pieces that are fetched within these hours, and a
// yard of the same pieces: each weighs, and bears, one more than its hour.
func hourly(hours []api.Band) (api.Shelf, api.Yard) {
	s, y := api.Shelf{Lanes: ints{api.ShelfLength}}, yardOf(2)
	for _, out := range hours {
		s.Bags = append(s.Bags, api.Bag{Long: 1, Out: out})
		s.Plan = append(s.Plan, 0)
		y.Parcels = append(y.Parcels, parcel(out.Min+1, out.Max+1, out.Min+1, 1))
	}
	return s, y
}

// T5: stacked.
func TestStacked(t *testing.T) {
	rng := rand.New(rand.NewPCG(5, 4))
	for range 2000 {
		var hours []api.Band
		for range rng.IntN(api.ShelfPieces + 1) {
			hour := rng.IntN(api.ShelfHour + 1)
			hours = append(hours, band(hour, hour))
		}
		s, y := hourly(hours)
		for i := range hours {
			on := sure(pile.On(y, ints{i}))
			for k := i + 1; k < len(hours); k++ {
				if must := sure(shelf.Must(s, i, k)); slices.Contains(on, k) != (must == api.NoWay) {
					t.Fatal(hours, i, k, on, must)
				}
			}
		}
	}
}

// T5: of a piece whose hour is not known it is as sure that it is crushing as that it is moved.
func TestStackedPerhaps(t *testing.T) {
	for behind := range api.ShelfHour + 1 {
		for from := range api.ShelfHour + 1 {
			for to := from; to <= api.ShelfHour; to++ {
				s, y := hourly([]api.Band{band(behind, behind), band(from, to)})
				must := sure(shelf.Must(s, 0, 1))
				says(t, fmt.Sprint("Crushed ", y), fmt.Sprint(pile.Crushed(y, ints{0, 1})), ints{must, api.NoWay}, api.OK)
			}
		}
	}
}

// T12: piled.
func TestPiled(t *testing.T) {
	rng := rand.New(rand.NewPCG(12, 4))
	for range 1000 {
		y, lane := yardOf(1+rng.IntN(api.ShelfLength)), api.Shelf{}
		for range rng.IntN(api.PilePieces + 1) {
			tall := 1 + rng.IntN(api.PileTall)
			y.Parcels = append(y.Parcels, parcel(1, 1+rng.IntN(7), api.PileBears, tall))
			lane.Bags = append(lane.Bags, api.Bag{Long: tall})
		}
		few, e := pile.Fewest(y)
		for range api.ShelfLanes {
			lane.Lanes = append(lane.Lanes, y.Limit)
			_, _, f := shelf.Best(lane)
			if fit := e == api.OK && len(few) <= len(lane.Lanes); fit != (f == api.OK) {
				t.Fatal(y, few, e, lane, f)
			}
		}
	}
}

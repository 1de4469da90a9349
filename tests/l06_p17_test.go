package tests

import (
	"fmt"
	"math/big"
	"slices"
	"testing"

	"loop.example/g01091/impl"
)

func TestP17Example(t *testing.T) {
	sameNumber(t, "RepeatsNeeded", fineNumber(t)(impl.RepeatsNeeded(5, 2)), 2)
	sameNumber(t, "FormulaCost", fineNumber(t)(impl.FormulaCost(5, 2)), 6)
	sameNumber(t, "ChainReach", fineNumber(t)(impl.ChainReach(2, 2)), 6)
}

// waysToChoose is how many ways there are to choose some of so many things.
func waysToChoose(things, chosen int64) int64 {
	return new(big.Int).Binomial(things, chosen).Int64()
}

func TestP17ReachOfAllChains(t *testing.T) {
	for slots := range int64(9) {
		for repeats := range int64(41) {
			name := fmt.Sprintf("%d slots and %d repeats", slots, repeats)
			reach := fineNumber(t)(impl.ChainReach(slots, repeats))
			sameNumber(t, name, reach, waysToChoose(slots+repeats, slots))
			if slots > 0 && repeats > 0 {
				less, fewer := fineNumber(t)(impl.ChainReach(slots-1, repeats)), fineNumber(t)(impl.ChainReach(slots, repeats-1))
				sameNumber(t, name, reach, less+fewer)
			}
		}
	}
	for _, c := range [][3]int64{{0, 0, 1}, {0, 40, 1}, {8, 0, 1}, {1, 40, 41}, {8, 1, 9}, {2, 7, 36}, {2, 8, 45}, {3, 4, 35}, {3, 5, 56}, {8, 40, 377348994}} {
		sameNumber(t, fmt.Sprint(c), fineNumber(t)(impl.ChainReach(c[0], c[1])), c[2])
	}
}

// TestP17AllChains compares the formula with the recursion, with the search, and with
// the planned schedule, which repeats no step more often than is needed, but one step
// as often.
func TestP17AllChains(t *testing.T) {
	for slots := range int64(9) {
		for n := range int64(41) {
			name, w := fmt.Sprintf("%d steps and %d slots", n, slots), ones(n)
			repeats, needs := impl.RepeatsNeeded(n, slots)
			cost, costs := impl.FormulaCost(n, slots)
			least, other := impl.LeastCost(w, slots)
			if n > 1 && slots == 0 {
				if needs != impl.ErrState || costs != impl.ErrState || other != impl.ErrState || repeats != 0 || cost != 0 {
					t.Errorf("%s: the codes %d and %d", name, needs, costs)
				}
				continue
			}
			if needs != impl.OK || costs != impl.OK || other != impl.OK || cost != least {
				t.Errorf("%s: the cost %d with the codes %d and %d, and the least cost %d", name, cost, needs, costs, least)
			}
			if n <= 7 && slots <= 3 {
				sameNumber(t, name, fineNumber(t)(impl.SearchCost(w, slots)), cost)
			}
			want := int64(0)
			for waysToChoose(slots+want, slots) < n {
				want++
			}
			sameNumber(t, name, repeats, want)
			sameNumber(t, name, cost, repeats*n-waysToChoose(slots+repeats, slots+1))
			list := fineSchedule(t)(impl.BestSchedule(w, slots))
			over := fine(t)(impl.AdvancesOf(list, n, slots))
			sameNumber(t, name, fineUsage(t)(impl.RunSchedule(list, w, slots)).Cost, cost)
			sameNumber(t, name, sumOf(over), cost)
			sameNumber(t, name, slices.Max(append(over, 0)), repeats)
		}
	}
}

func TestP17FormulaByHand(t *testing.T) {
	for _, c := range []struct{ n, slots, repeats, cost int64 }{
		{0, 0, 0, 0}, {1, 0, 0, 0}, {0, 8, 0, 0}, {1, 8, 0, 0}, {0, 1, 0, 0}, {1, 1, 0, 0}, {2, 1, 1, 1}, {2, 8, 1, 1}, {3, 1, 2, 3}, {3, 2, 1, 2}, {4, 2, 2, 4}, {5, 2, 2, 6}, {6, 2, 2, 8}, {7, 2, 3, 11}, {9, 8, 1, 8}, {10, 8, 2, 10},
		{10, 3, 2, 15}, {11, 3, 3, 18}, {20, 3, 3, 45}, {21, 3, 4, 49}, {40, 1, 39, 780}, {40, 8, 2, 70}, {39, 1, 38, 741}, {40, 2, 8, 200}, {36, 2, 7, 168}, {37, 2, 8, 176},
	} {
		name := fmt.Sprintf("%d steps and %d slots", c.n, c.slots)
		sameNumber(t, name, fineNumber(t)(impl.RepeatsNeeded(c.n, c.slots)), c.repeats)
		sameNumber(t, name, fineNumber(t)(impl.FormulaCost(c.n, c.slots)), c.cost)
	}
}

// repeated tells whether the steps a to b - 1 can be reversed with so many slots, when
// none is advanced over more than so many times. The first of them is in a slot.
func repeated(steps, slots, repeats int64, known map[[3]int64]bool) bool {
	if steps <= 1 {
		return true
	}
	if slots == 0 || repeats == 0 {
		return false
	}
	key := [3]int64{steps, slots, repeats}
	if can, ok := known[key]; ok {
		return can
	}
	for m := int64(1); m < steps && !known[key]; m++ {
		known[key] = repeated(m, slots, repeats-1, known) && repeated(steps-m, slots-1, repeats, known)
	}
	return known[key]
}

// TestP17LongerChainsNeedMoreRepeats has all chains that are reversed as the recursion
// of the least cost does it.
func TestP17LongerChainsNeedMoreRepeats(t *testing.T) {
	known := map[[3]int64]bool{}
	for slots := range int64(9) {
		for repeats := range int64(40) {
			reach := fineNumber(t)(impl.ChainReach(slots, repeats))
			for n := range int64(41) {
				if repeated(n, slots, repeats, known) != (n <= reach) {
					t.Errorf("%d steps, %d slots and %d repeats", n, slots, repeats)
				}
			}
		}
	}
}

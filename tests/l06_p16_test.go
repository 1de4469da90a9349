package tests

import (
	"fmt"
	"math"
	"slices"
	"strings"
	"testing"

	"loop.example/g01091/impl"
)

func TestP16Example(t *testing.T) {
	w := ones(5)
	sameNumber(t, "SplitOf", fineNumber(t)(impl.SplitOf(w, 2)), 2)
	sameNumber(t, "LeastCost", fineNumber(t)(impl.LeastCost(w, 2)), 6)
	sameNumber(t, "SearchCost", fineNumber(t)(impl.SearchCost(w, 2)), 6)
	if have := impl.ScheduleText(fineSchedule(t)(impl.BestSchedule(w, 2))); have != "s0 a2 s1 a2 r l1 a1 r l1 r l0 a1 r l0 r" {
		t.Errorf("BestSchedule is %s", have)
	}
}

// recursion has what the recursion of the document says of chains with some weights.
type recursion struct {
	w     []int64
	known map[[3]int64][2]int64
}

// best is the split and the least cost of the steps a to b - 1 with c slots, and -1
// for both if there is none.
func (r recursion) best(a, b, c int64) (int64, int64) {
	if b-a <= 1 {
		return -1, 0
	}
	if c < 1 {
		return -1, -1
	}
	key := [3]int64{a, b, c}
	if found, ok := r.known[key]; ok {
		return found[0], found[1]
	}
	split, least := int64(-1), int64(math.MaxInt64)
	for m := a + 1; m < b; m++ {
		_, behind := r.best(m, b, c-1)
		_, before := r.best(a, m, c)
		if cost := sumOf(r.w[a:m]) + behind + before; behind >= 0 && before >= 0 && cost < least {
			split, least = m, cost
		}
	}
	r.known[key] = [2]int64{split, least}
	return split, least
}

// planned are the words of the schedule for the steps a to b - 1 with c of some slots.
func (r recursion) planned(a, b, c, slots int64, below bool) []string {
	if a == b {
		return nil
	}
	if b-a == 1 {
		return []string{"r"}
	}
	m, _ := r.best(a, b, c)
	var words []string
	if !below {
		words = append(words, fmt.Sprintf("s%d", slots-c))
	}
	words = append(words, fmt.Sprintf("a%d", m-a))
	words = append(words, r.planned(m, b, c-1, slots, false)...)
	words = append(words, fmt.Sprintf("l%d", slots-c))
	return append(words, r.planned(a, m, c, slots, true)...)
}

// checkCosts compares all functions of least costs with the recursion, and has the
// planned schedule run.
func checkCosts(t *testing.T, w []int64, slots int64) {
	t.Helper()
	name := fmt.Sprintf("%v and %d slots", w, slots)
	n := int64(len(w))
	r := recursion{w, map[[3]int64][2]int64{}}
	split, want := r.best(0, n, slots)
	cost, costly := impl.LeastCost(w, slots)
	at, splits := impl.SplitOf(w, slots)
	list, plans := impl.BestSchedule(w, slots)
	if want < 0 {
		if costly != impl.ErrState || splits != impl.ErrState || plans != impl.ErrState || cost != 0 || at != 0 || len(list) > 0 {
			t.Errorf("%s: the codes %d, %d and %d", name, costly, splits, plans)
		}
		return
	}
	if costly != impl.OK || plans != impl.OK || cost != want {
		t.Errorf("%s: the cost %d with the code %d, want %d", name, cost, costly, want)
	}
	if n < 2 && (splits != impl.ErrNotFound || at != 0) || n > 1 && (splits != impl.OK || at != split) {
		t.Errorf("%s: the split %d with the code %d, want %d", name, at, splits, split)
	}
	text := strings.Join(r.planned(0, n, slots, slots, false), " ")
	if n == 0 {
		text = "-"
	}
	if scheduleText(list) != text {
		t.Errorf("%s: the schedule %s, want %s", name, scheduleText(list), text)
	}
	u := fineUsage(t)(impl.RunSchedule(list, w, slots))
	if k, ok := walked(list, n, slots); !ok || u.Cost != want || k.usage(w) != u {
		t.Errorf("%s: the schedule uses %v", name, u)
	}
	if short := fineSchedule(t)(impl.TrimSchedule(list, n, slots)); !slices.Equal(short, list) {
		t.Errorf("%s: the schedule %s has idle actions", name, text)
	}
	checkLeastSlots(t, r, cost)
}

// checkLeastSlots looks for the least number of slots for a cost, and for one less
// and one more.
func checkLeastSlots(t *testing.T, r recursion, cost int64) {
	t.Helper()
	for _, cost := range []int64{cost - 1, cost, cost + 1} {
		want := int64(-1)
		for slots := int64(8); slots >= 0; slots-- {
			if _, least := r.best(0, int64(len(r.w)), slots); least >= 0 && least <= cost {
				want = slots
			}
		}
		have, code := impl.LeastSlots(r.w, cost)
		if want < 0 && (code != impl.ErrNotFound || have != 0) || want >= 0 && (code != impl.OK || have != want) {
			t.Errorf("%v for the cost %d: %d slots with the code %d, want %d", r.w, cost, have, code, want)
		}
	}
}

func TestP16ManyWeights(t *testing.T) {
	for seed := range int64(400) {
		v := inventions(seed)
		w := v.weightsOf(v.Int63n([]int64{4, 12, 41}[seed%3]))
		for slots := range int64(9) {
			if len(w) < 12 || (seed+slots)%4 == 0 {
				checkCosts(t, w, slots)
			}
		}
	}
}

// TestP16AllShortChains has all weights from 0 to 2.
func TestP16AllShortChains(t *testing.T) {
	for n, count := range []int{1, 3, 9, 27, 81, 243} {
		for number := range count {
			var w []int64
			for rest := number; len(w) < n; rest /= 3 {
				w = append(w, int64(rest%3))
			}
			for slots := range int64(5) {
				checkCosts(t, w, slots)
				if slots <= 3 {
					checkSearch(t, w, slots)
				}
			}
		}
	}
}

func TestP16LongestChains(t *testing.T) {
	for _, w := range [][]int64{make([]int64, 40), ones(40), constant(39, 1000), beginning(constant(39, 1000), 0), append(make([]int64, 39), 1000), slices.Repeat([]int64{1000, 0}, 20), slices.Repeat([]int64{0, 0, 0, 1000}, 10), ones(39)} {
		for slots := range int64(9) {
			checkCosts(t, w, slots)
		}
	}
	sameNumber(t, "one slot", fineNumber(t)(impl.LeastCost(constant(39, 1000), 1)), 780000)
	sameNumber(t, "the slots for most", fineNumber(t)(impl.LeastSlots(constant(39, 1000), 780000)), 1)
	sameNumber(t, "the slots for less", fineNumber(t)(impl.LeastSlots(constant(39, 1000), 779999)), 2)
}

// TestP16TiesBetweenSplits has the least one of the splits with the least cost.
func TestP16TiesBetweenSplits(t *testing.T) {
	for _, c := range []struct {
		w     []int64
		slots int64
		split int64
		text  string
	}{
		{[]int64{0, 0}, 1, 1, "s0 a1 r l0 r"}, {[]int64{0, 0, 0}, 1, 2, "s0 a2 r l0 a1 r l0 r"}, {[]int64{0, 0, 0}, 2, 1, "s0 a1 s1 a1 r l1 r l0 r"}, {[]int64{0, 0, 0}, 8, 1, "s0 a1 s1 a1 r l1 r l0 r"},
		{ones(2), 8, 1, "s0 a1 r l0 r"}, {ones(3), 2, 1, "s0 a1 s1 a1 r l1 r l0 r"}, {ones(4), 2, 1, "s0 a1 s1 a2 r l1 a1 r l1 r l0 r"}, {ones(4), 3, 1, "s0 a1 s1 a1 s2 a1 r l2 r l1 r l0 r"}, {ones(5), 1, 4, "s0 a4 r l0 a3 r l0 a2 r l0 a1 r l0 r"}, {ones(5), 2, 2, "s0 a2 s1 a2 r l1 a1 r l1 r l0 a1 r l0 r"}, {ones(6), 2, 3, "s0 a3 s1 a2 r l1 a1 r l1 r l0 a1 s1 a1 r l1 r l0 r"}, {ones(6), 3, 1, ""},
		{[]int64{1, 1, 0}, 1, 2, "s0 a2 r l0 a1 r l0 r"}, {[]int64{0, 1, 1, 1}, 2, 2, ""}, {[]int64{1, 0, 1, 1}, 2, 1, ""}, {[]int64{9, 1, 1, 1, 1}, 2, 1, ""}, {[]int64{1, 1, 9, 1, 1}, 2, 3, ""}, {[]int64{0, 0, 0, 0, 0, 0}, 2, 1, ""}, {[]int64{0, 0, 0, 0, 7, 0}, 2, 1, ""}, {[]int64{0, 0, 0, 0, 7, 7}, 2, 1, ""},
	} {
		sameNumber(t, fmt.Sprintf("%v with %d slots", c.w, c.slots), fineNumber(t)(impl.SplitOf(c.w, c.slots)), c.split)
		have := impl.ScheduleText(fineSchedule(t)(impl.BestSchedule(c.w, c.slots)))
		if c.text != "" && have != c.text {
			t.Errorf("%v with %d slots: %s, want %s", c.w, c.slots, have, c.text)
		}
		checkCosts(t, c.w, c.slots)
	}
}

func TestP16ShortestChains(t *testing.T) {
	for slots := range int64(9) {
		for n, want := range []string{"-", "r"} {
			for _, w := range [][]int64{make([]int64, n), constant(n-1, 1000)} {
				checkCosts(t, w, slots)
				if have := impl.ScheduleText(fineSchedule(t)(impl.BestSchedule(w, slots))); have != want {
					t.Errorf("%d steps: %s", n, have)
				}
				sameNumber(t, "LeastCost", fineNumber(t)(impl.LeastCost(w, slots)), 0)
				if slots <= 3 {
					sameNumber(t, "SearchCost", fineNumber(t)(impl.SearchCost(w, slots)), 0)
				}
				sameNumber(t, "LeastSlots", fineNumber(t)(impl.LeastSlots(w, 0)), 0)
				if _, code := impl.LeastSlots(w, -1); code != impl.ErrNotFound {
					t.Errorf("LeastSlots of a cost that is negative has the code %d", code)
				}
			}
		}
	}
	for _, cost := range []int64{math.MinInt64, -1, 0, 6} {
		if slots, code := impl.LeastSlots([]int64{5, 2, 9}, cost); slots != 0 || code != impl.ErrNotFound {
			t.Errorf("%d slots for the cost %d with the code %d", slots, cost, code)
		}
	}
	for cost, want := range map[int64]int64{7: 2, 8: 2, 11: 2, 12: 1, 13: 1, math.MaxInt64: 1} {
		sameNumber(t, "LeastSlots", fineNumber(t)(impl.LeastSlots([]int64{5, 2, 9}, cost)), want)
	}
}

// searchSpot is what a schedule can have come to, with the states in the slots.
type searchSpot struct {
	current, left int64
	held          [3]int64
}

// searchedSlowly is the least cost of all schedules, by all actions in all slots, and
// -1 if there is none.
func searchedSlowly(w []int64, slots int64) int64 {
	costs := map[searchSpot]int64{{left: int64(len(w)), held: [3]int64{-1, -1, -1}}: 0}
	least := int64(-1)
	for changed := costs; len(changed) > 0; {
		next := map[searchSpot]int64{}
		for at, cost := range changed {
			if at.left == 0 && (least < 0 || cost < least) {
				least = cost
			}
			for to, more := range spotsBehind(at, w, slots) {
				if known, ok := costs[to]; !ok || cost+more < known {
					costs[to], next[to] = cost+more, cost+more
				}
			}
		}
		changed = next
	}
	return least
}

// spotsBehind are the spots that one action leads to, with its cost.
func spotsBehind(at searchSpot, w []int64, slots int64) map[searchSpot]int64 {
	list := map[searchSpot]int64{}
	for to := at.current + 1; to < at.left; to++ {
		list[searchSpot{to, at.left, at.held}] = sumOf(w[at.current:to])
	}
	if at.current == at.left-1 {
		list[searchSpot{at.current, at.left - 1, at.held}] = 0
	}
	for slot := range slots {
		other := at
		other.held[slot] = at.current
		list[other] = 0
		if at.held[slot] >= 0 {
			list[searchSpot{at.held[slot], at.left, at.held}] = 0
		}
	}
	return list
}

// checkSearch compares SearchCost with LeastCost.
func checkSearch(t *testing.T, w []int64, slots int64) {
	t.Helper()
	cost, code := impl.SearchCost(w, slots)
	least, other := impl.LeastCost(w, slots)
	if cost != least || code != other || code != impl.OK && code != impl.ErrState {
		t.Errorf("%v with %d slots: %d with the code %d, and the least cost %d with the code %d", w, slots, cost, code, least, other)
	}
}

func TestP16TheSearchFindsTheLeastCost(t *testing.T) {
	for seed := range int64(3000) {
		v := inventions(seed)
		checkSearch(t, v.weightsOf(v.Int63n(8)), v.Int63n(4))
	}
	for slots := range int64(4) {
		for n := range int64(8) {
			for _, weight := range []int64{0, 1, 7, 1000} {
				checkSearch(t, slices.Repeat([]int64{weight}, int(n)), slots)
			}
		}
	}
}

func TestP16AnotherSearchFindsTheSame(t *testing.T) {
	for seed := range int64(150) {
		v := inventions(seed)
		slots := v.Int63n(4)
		w := v.weightsOf(v.Int63n(8 - slots))
		if seed < 4 {
			w, slots = v.weightsOf(7), seed
		}
		want := searchedSlowly(w, slots)
		cost, code := impl.SearchCost(w, slots)
		if want < 0 && (code != impl.ErrState || cost != 0) || want >= 0 && (code != impl.OK || cost != want) {
			t.Errorf("%v with %d slots: %d with the code %d, want %d", w, slots, cost, code, want)
		}
	}
}

// TestP16NoScheduleCostsLess has schedules without any pattern, with as many slots.
func TestP16NoScheduleCostsLess(t *testing.T) {
	reached := 0
	for seed := range int64(2000) {
		v := inventions(seed)
		n := v.Int63n([]int64{4, 8, 41}[seed%3])
		slots := 1 + v.Int63n(8)
		w := v.weightsOf(n)
		list := v.reversal(n, slots)
		u := fineUsage(t)(impl.RunSchedule(list, w, slots))
		least := fineNumber(t)(impl.LeastCost(w, slots))
		if u.Cost < least || u.Cost < fineNumber(t)(impl.LeastCost(w, u.Slots+max(0, 1-u.Slots))) {
			t.Errorf("%s costs %d, less than %d", scheduleText(list), u.Cost, least)
		}
		if need := fineNumber(t)(impl.LeastSlots(w, u.Cost)); need > u.Slots {
			t.Errorf("%s has %d slots, less than %d", scheduleText(list), u.Slots, need)
		}
		if u.Cost == least && n > 2 {
			reached++
		}
	}
	if reached < 50 {
		t.Errorf("the least cost is reached %d times", reached)
	}
}

// TestP16MoreSlotsDoNotCostMore also with weights that are all multiplied.
func TestP16MoreSlotsDoNotCostMore(t *testing.T) {
	for seed := range int64(150) {
		v := inventions(seed)
		n := 2 + v.Int63n(39)
		w := v.weightsOf(n)
		for slots := int64(2); slots <= 8; slots++ {
			less, more := fineNumber(t)(impl.LeastCost(w, slots)), fineNumber(t)(impl.LeastCost(w, slots-1))
			if less > more || less < sumOf(w[:n-1]) {
				t.Errorf("%v costs %d with %d slots, and %d with one less", w, less, slots, more)
			}
			if slots >= n-1 && less != sumOf(w[:n-1]) {
				t.Errorf("%v costs %d with %d slots", w, less, slots)
			}
		}
		var half []int64
		for k := range w {
			half = append(half, w[k]/2)
			w[k] = w[k] / 2 * 2
		}
		sameNumber(t, "half the cost", 2*fineNumber(t)(impl.LeastCost(half, 3)), fineNumber(t)(impl.LeastCost(w, 3)))
	}
}

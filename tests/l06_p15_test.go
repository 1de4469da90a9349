package tests

import (
	"fmt"
	"math"
	"slices"
	"strings"
	"testing"

	"loop.example/g01091/impl"
)

func TestP15Example(t *testing.T) {
	list := schedule(t, "s0 a2 r l0 a1 r l0 r")
	u := fineUsage(t)(impl.RunSchedule(list, []int64{5, 2, 9}, 1))
	if want := (impl.Usage{Cost: 12, Advances: 3, Stores: 1, Loads: 2, Slots: 1}); u != want {
		t.Errorf("have %v, want %v", u, want)
	}
	same(t, "AdvancesOf", fine(t)(impl.AdvancesOf(list, 3, 1)), []int64{2, 1, 0})
}

// actionsAtTheEdge are actions with arguments around all limits, and whether they
// have the form of their kind.
func actionsAtTheEdge() map[impl.Action]bool {
	edges := []int64{math.MinInt64, -41, -2, -1, 0, 1, 2, 6, 7, 8, 9, 38, 39, 40, 41, 42, 1 << 32, math.MaxInt64 - 1, math.MaxInt64}
	list := map[impl.Action]bool{}
	for _, arg := range edges {
		list[action(impl.CkAdvance, arg)] = arg >= 1 && arg <= 40
		list[action(impl.CkStore, arg)] = arg >= 0 && arg <= 7
		list[action(impl.CkLoad, arg)] = arg >= 0 && arg <= 7
		list[action(impl.CkReverse, arg)] = arg == 0
		for _, kind := range []int64{math.MinInt64, -1, 0, 5, 6, 1 << 32, math.MaxInt64} {
			list[action(kind, arg)] = false
		}
	}
	return list
}

func TestP15ValidSchedules(t *testing.T) {
	reverse := action(impl.CkReverse, 0)
	for a, want := range actionsAtTheEdge() {
		for _, list := range [][]impl.Action{{a}, {a, reverse}, {reverse, a}, append(slices.Repeat([]impl.Action{reverse}, 399), a)} {
			if impl.ValidSchedule(list) != want {
				t.Errorf("%v among %d actions: want %v", a, len(list), want)
			}
			if text := impl.ScheduleText(list); !want && text != "" || want && text != scheduleText(list) {
				t.Errorf("%v has the text %q", a, text)
			}
		}
	}
	for count, want := range map[int]bool{0: true, 1: true, 399: true, 400: true, 401: false, 1000: false} {
		for a, valid := range actionsAtTheEdge() {
			if impl.ValidSchedule(slices.Repeat([]impl.Action{a}, count)) != (want && (valid || count == 0)) {
				t.Errorf("%d times %v", count, a)
			}
		}
	}
}

func TestP15ValidWeights(t *testing.T) {
	for _, weight := range []int64{math.MinInt64, -1, 0, 1, 999, 1000, 1001, 1 << 32, math.MaxInt64} {
		want := weight >= 0 && weight <= 1000
		for _, w := range [][]int64{{weight}, {weight, 7}, {0, 1000, weight}, beginning(ones(40), weight), append(ones(39), weight)} {
			if impl.ValidWeights(w) != want {
				t.Errorf("%v: want %v", w, want)
			}
		}
	}
	for count, want := range map[int]bool{0: true, 1: true, 39: true, 40: true, 41: false, 1000: false} {
		if impl.ValidWeights(make([]int64, count)) != want {
			t.Errorf("%d weights: want %v", count, want)
		}
	}
}

func TestP15TextsByHand(t *testing.T) {
	for text, want := range map[string][]impl.Action{
		"-": nil, "r": {action(4, 0)}, "a1": {action(1, 1)}, "a40": {action(1, 40)}, "s0": {action(2, 0)}, "s7": {action(2, 7)}, "l0": {action(3, 0)}, "l7": {action(3, 7)},
		"r r": {action(4, 0), action(4, 0)}, "a10 s5 l6 r": {action(1, 10), action(2, 5), action(3, 6), action(4, 0)},
	} {
		have, code := impl.ReadSchedule(text)
		if code != impl.OK || !slices.Equal(have, want) || impl.ScheduleText(want) != text {
			t.Errorf("%q is read as %v with the code %d, and %v is written as %q", text, have, code, want, impl.ScheduleText(want))
		}
	}
	if impl.ScheduleText([]impl.Action{}) != "-" {
		t.Error("the text of no action")
	}
}

func TestP15TextsOfNoSchedules(t *testing.T) {
	texts := []string{
		"", " ", "--", "- ", " -", "- r", "r -", "-1", "a", "s", "l", "a0", "a41", "a400", "s8", "l8", "s-1", "l+1", "a-1", "r0", "r1", "rr", "r ", " r", "r  r", "r\n", "r\nr", "r\tr", "a1r", "a 1", "a1 ", " a1", "a01", "s00", "l01", "a1.0", "a1e1",
		"A1", "S0", "L0", "R", "x", "b1", "0", "1", "1a", "q0", "as1", "ss", "á1", "a\u0661", "s\x00", "\xff", "r\xff", "a1,r", "a1;r", "a1000003", "a1000004", "s1000003", "a99999999999999999999", "a9223372036854775808", "a18446744073709551617", "s4294967296",
	}
	texts = append(texts, strings.TrimSuffix(strings.Repeat("r ", 401), " "), strings.Repeat("r ", 400), strings.Repeat("r", 1<<20), strings.Repeat(" ", 1<<20), strings.Repeat("a1 ", 1<<20), "s"+strings.Repeat("0", 1<<20), "a"+strings.Repeat("1", 1<<20))
	for _, text := range texts {
		if list, code := impl.ReadSchedule(text); code != impl.ErrSyntax || len(list) > 0 {
			t.Errorf("%s is read as %s with the code %d", brief(text), brief(list), code)
		}
	}
	for _, word := range []string{"r", "a40", "s7", "l0"} {
		list := schedule(t, strings.TrimSuffix(strings.Repeat(word+" ", 400), " "))
		sameNumber(t, "the actions of a long text", int64(len(list)), 400)
	}
}

func TestP15ManyTexts(t *testing.T) {
	for seed := range int64(500) {
		v := inventions(seed)
		list := make([]impl.Action, v.Intn(1+[]int{3, 20, 400}[seed%3]))
		for k := range list {
			list[k] = v.action(impl.MaxSlots)
		}
		text := impl.ScheduleText(list)
		if text != scheduleText(list) || !slices.Equal(schedule(t, text), list) {
			t.Fatalf("%v has the text %s", list, text)
		}
		at := v.Intn(len(text))
		changed := text[:at] + string("aslr- 01789"[v.Intn(11)]) + text[at+v.Intn(2):]
		if other, code := impl.ReadSchedule(changed); code == impl.OK && scheduleText(other) != changed {
			t.Fatalf("%s is read as %v", changed, other)
		}
	}
}

// TestP15ActionsThatArePossibleJustNot has schedules with the index of the first
// action that is not possible, the number of actions if steps are left, and -1 if the
// chain is reversed.
func TestP15ActionsThatArePossibleJustNot(t *testing.T) {
	for _, c := range []struct {
		n, slots int64
		text     string
		want     int64
	}{
		{0, 0, "-", -1}, {1, 0, "-", 0}, {2, 0, "-", 0}, {0, 0, "r", 0}, {1, 0, "r", -1}, {1, 0, "r r", 1}, {2, 0, "r", 0}, {2, 0, "a1", 1}, {2, 0, "a1 r", 2}, {2, 0, "a1 r r", 2}, {40, 8, "-", 0}, {40, 0, "a39 r", 2}, {40, 0, "a40", 0},
		{0, 0, "a1", 0}, {1, 0, "a1", 0}, {2, 0, "a2", 0}, {3, 0, "a2", 1}, {3, 0, "a1 a1", 2}, {3, 0, "a1 a2", 1}, {3, 0, "a1 a1 a1", 2}, {3, 0, "a1 r", 1}, {3, 0, "a2 r a1", 2}, {3, 1, "s0 a2 r l0 a2", 4}, {3, 1, "s0 a2 r l0 a1", 5}, {3, 1, "s0 a2 r l0 r", 4}, {3, 1, "s0 a2 r r", 3},
		{0, 0, "s0", 0}, {0, 1, "s0", -1}, {0, 1, "s0 l0", -1}, {0, 1, "l0", 0}, {0, 1, "s0 l0 a1", 2}, {1, 1, "r s0 l0", -1}, {1, 1, "r s0 a1", 2}, {1, 8, "s7 s0 r l7 l0", -1}, {1, 7, "s7", 0}, {1, 7, "s6 r", -1}, {1, 8, "s7 l6", 1}, {1, 1, "s0 l1", 1}, {1, 0, "l0 r", 0}, {1, 0, "r l0", 1}, {1, 0, "s0 r", 0}, {1, 8, "l7 r", 0},
		{2, 1, "s0 a1 r l0 r", -1}, {2, 1, "a1 s0 r l0 r", 4}, {2, 1, "s0 a1 s0 r l0 r", 5}, {2, 2, "s0 a1 s1 r l0 r", -1}, {2, 2, "s0 a1 s1 r l1 l0 r", -1}, {2, 2, "s0 a1 s1 r l1 r", 5}, {2, 2, "s0 a1 s1 r l1 a1", 5}, {2, 1, "s0 s0 a1 r l0 r", -1}, {2, 1, "s0 a1 l0 a1 r l0 r", -1}, {2, 1, "s0 a1 r l0", 4}, {2, 1, "s0 a1 r l0 a1", 4},
		{3, 1, "s0 a2 r l0 a1 r l0 r", -1}, {4, 1, "s0 a2 r l0 a1 r l0 r", 2}, {2, 1, "s0 a2 r l0 a1 r l0 r", 1}, {3, 0, "s0 a2 r l0 a1 r l0 r", 0}, {3, 8, "s0 a2 r l0 a1 r l0 r", -1}, {3, 1, "s0 a2 r l0 a1 r l0", 7}, {3, 1, "s0 a2 r l0 a1 r l0 r r", 8}, {3, 1, "s0 a2 r l0 a1 r l0 r l0 s0 l0", -1},
	} {
		list := schedule(t, c.text)
		have, code := impl.FirstBadAction(list, c.n, c.slots)
		if c.want < 0 && (have != 0 || code != impl.ErrNotFound) || c.want >= 0 && (have != c.want || code != impl.OK) {
			t.Errorf("%s for %d steps and %d slots: %d with the code %d, want %d", c.text, c.n, c.slots, have, code, c.want)
		}
		checkWalk(t, list, c.n, c.slots, ones(c.n))
	}
}

// checkWalk compares all functions of schedules with a walk.
func checkWalk(t *testing.T, list []impl.Action, n, slots int64, w []int64) bool {
	t.Helper()
	k, ok := walked(list, n, slots)
	name := fmt.Sprintf("%s for %d steps and %d slots", impl.ScheduleText(list), n, slots)
	u, ran := impl.RunSchedule(list, w, slots)
	over, told := impl.AdvancesOf(list, n, slots)
	short, cut := impl.TrimSchedule(list, n, slots)
	bad, found := impl.FirstBadAction(list, n, slots)
	if !ok {
		if ran != impl.ErrState || told != impl.ErrState || cut != impl.ErrState || found != impl.OK || bad != int64(len(k.list)) || u != (impl.Usage{}) || len(over) > 0 || len(short) > 0 {
			t.Errorf("%s: the codes %d, %d, %d and %d, and the action %d", name, ran, told, cut, found, bad)
		}
		return false
	}
	if ran != impl.OK || told != impl.OK || cut != impl.OK || found != impl.ErrNotFound || bad != 0 {
		t.Errorf("%s: the codes %d, %d, %d and %d, and the action %d", name, ran, told, cut, found, bad)
	}
	if want := k.usage(w); u != want {
		t.Errorf("%s uses %v, want %v", name, u, want)
	}
	same(t, name, over, k.over)
	if want := withoutIdle(list); scheduleText(short) != scheduleText(want) {
		t.Errorf("%s becomes %s, want %s", name, scheduleText(short), scheduleText(want))
	}
	return true
}

// withoutIdle leaves idle actions out from the last one to the first one. What
// comes ahead of an action does not make it idle.
func withoutIdle(list []impl.Action) []impl.Action {
	var kept []impl.Action
	for _, a := range slices.Backward(list) {
		idle := len(kept) == 0 || kept[0].Kind == impl.CkLoad
		switch a.Kind {
		case impl.CkReverse:
			idle = false
		case impl.CkStore:
			text := " " + scheduleText(kept) + " "
			before, _, _ := strings.Cut(text, fmt.Sprintf(" s%d ", a.Arg))
			idle = !strings.Contains(before+" ", fmt.Sprintf(" l%d ", a.Arg))
		}
		if !idle {
			kept = append([]impl.Action{a}, kept...)
		}
	}
	return kept
}

// TestP15ManySchedules has schedules without any pattern, and such that reverse a
// chain, with as many slots and steps and with others.
func TestP15ManySchedules(t *testing.T) {
	counts := map[bool]int{}
	for seed := range int64(1500) {
		v := inventions(seed)
		n, slots := v.Int63n([]int64{4, 9, 41}[seed%3]), v.Int63n(9)
		if n > 1 {
			slots = max(slots, 1)
		}
		list := v.reversal(n, slots)
		for _, more := range []int64{0, 1, -1} {
			for _, other := range []int64{0, 1, -1} {
				m, c := min(max(n+more, 0), 40), min(max(slots+other, 0), 8)
				counts[checkWalk(t, list, m, c, v.weightsOf(m))]++
			}
		}
		if !checkWalk(t, list, n, slots, v.weightsOf(n)) {
			t.Errorf("%s does not reverse %d steps", scheduleText(list), n)
		}
		if len(list) > 0 {
			k := v.Intn(len(list))
			counts[checkWalk(t, slices.Delete(slices.Clone(list), k, k+1), n, slots, ones(n))]++
			list[k] = v.action(slots)
			counts[checkWalk(t, list, n, slots, ones(n))]++
			counts[checkWalk(t, list[:k], n, slots, ones(n))]++
		}
	}
	if counts[true] < 2000 || counts[false] < 5000 {
		t.Errorf("so many schedules reverse a chain: %v", counts)
	}
}

// TestP15UsageByHand has the cost, the steps that are advanced over, the stores, the
// loads and the slots, for the weights 1, 10, 100 and 1000.
func TestP15UsageByHand(t *testing.T) {
	for text, want := range map[string]impl.Usage{
		"-": {}, "r": {}, "s0 r": {Stores: 1, Slots: 1}, "s3 s3 l3 r": {Stores: 2, Loads: 1, Slots: 1}, "s7 s0 l7 l0 r s7": {Stores: 3, Loads: 2, Slots: 2},
		"s0 a1 r l0 r":                                 {Cost: 1, Advances: 1, Stores: 1, Loads: 1, Slots: 1},
		"s0 a2 r l0 a1 r l0 r":                         {Cost: 12, Advances: 3, Stores: 1, Loads: 2, Slots: 1},
		"s0 a1 s1 a1 s2 r l1 r l0 r":                   {Cost: 11, Advances: 2, Stores: 3, Loads: 2, Slots: 3},
		"s0 a3 r l0 a1 s1 a1 r l1 r l0 r":              {Cost: 122, Advances: 5, Stores: 2, Loads: 3, Slots: 2},
		"s0 a1 a1 a1 l0 a2 a1 r l0 a2 r l0 a1 r l0 r":  {Cost: 234, Advances: 9, Stores: 1, Loads: 4, Slots: 1},
		"s0 a3 l0 a3 l0 a3 r l0 a2 s0 r l0 l0 s5 s6 r": {}, // the state 0 is lost
	} {
		list := schedule(t, text)
		n := int64(strings.Count(text, "r"))
		u, code := impl.RunSchedule(list, []int64{1, 10, 100, 1000}[:n], 8)
		if u != want || (code == impl.OK) == strings.Contains(text, "s5") {
			t.Errorf("%s uses %v with the code %d, want %v", text, u, code, want)
		}
	}
	have := fineUsage(t)(impl.RunSchedule(schedule(t, "s0 "+strings.Repeat("l0 ", 398)+"r"), []int64{1000}, 1))
	if want := (impl.Usage{Stores: 1, Loads: 398, Slots: 1}); have != want {
		t.Errorf("most actions use %v, want %v", have, want)
	}
	// Nearly as many actions, most of them of no use.
	for n := int64(2); n <= 40; n++ {
		list := strings.Repeat(fmt.Sprintf("a%d l0 ", n-1), int(400-3*n)/2)
		for k := n - 1; k > 0; k-- {
			list += fmt.Sprintf("a%d r l0 ", k)
		}
		have := fineUsage(t)(impl.RunSchedule(schedule(t, "s0 "+list+"r"), constant(int(n)-1, 1000), 1))
		steps := (400-3*n)/2*(n-1) + n*(n-1)/2
		if want := (impl.Usage{Cost: 1000 * steps, Advances: steps, Stores: 1, Loads: (400-3*n)/2 + n - 1, Slots: 1}); have != want {
			t.Errorf("%d steps use %v, want %v", n, have, want)
		}
	}
}

func TestP15TrimByHand(t *testing.T) {
	for _, c := range []struct {
		n          int64
		text, want string
	}{
		{3, "s0 s1 a1 l0 a2 r l0 a1 r l1 l0 r s1", "s0 l0 a2 r l0 a1 r l0 r"}, {0, "-", "-"}, {1, "r", "r"}, {2, "s0 a1 r l0 r", "s0 a1 r l0 r"}, {3, "s0 a2 r l0 a1 r l0 r", "s0 a2 r l0 a1 r l0 r"},
		{0, "s0", "-"}, {0, "s0 l0", "-"}, {0, "s0 l0 s0 l0 l0 s1 l1", "-"}, {1, "r s0 l0", "r"}, {1, "s0 r", "r"}, {1, "s0 l0 r", "s0 l0 r"}, {1, "s0 s0 l0 r", "s0 l0 r"}, {1, "s0 s1 l0 l1 r", "s1 l1 r"}, {1, "s0 l0 s1 l1 s2 l2 r", "s0 l0 s1 l1 s2 l2 r"},
		{2, "s0 s0 a1 r l0 r", "s0 a1 r l0 r"}, {2, "s0 a1 l0 a1 r l0 r", "s0 l0 a1 r l0 r"}, {2, "s0 a1 s1 r l1 l0 r", "s0 a1 r l0 r"}, {2, "s0 a1 s1 r l1 s2 l2 l0 r", "s0 a1 r l0 r"}, {2, "s1 s0 a1 r l0 s1 l1 r", "s0 a1 r l0 s1 l1 r"}, {2, "s0 a1 s1 l0 l1 r l0 r", "s0 a1 s1 l1 r l0 r"},
		{3, "s0 a1 a1 l0 a2 r l0 a1 r l0 r", "s0 l0 a2 r l0 a1 r l0 r"}, {3, "s0 a1 s1 s2 a1 r l2 l1 r l2 l0 r", "s0 a1 s1 a1 r l1 r l0 r"}, {3, "s0 l0 l0 l0 a2 r l0 a1 r l0 r l0", "s0 l0 a2 r l0 a1 r l0 r"},
	} {
		list := fineSchedule(t)(impl.TrimSchedule(schedule(t, c.text), c.n, 8))
		if have := scheduleText(list); have != c.want {
			t.Errorf("%s becomes %s, want %s", c.text, have, c.want)
		}
		if again := fineSchedule(t)(impl.TrimSchedule(list, c.n, 8)); !slices.Equal(again, list) {
			t.Errorf("%s becomes %s", c.want, scheduleText(again))
		}
	}
}

// TestP15TrimmedSchedulesReverseTheirChains for no greater cost, and have no idle
// action: without one of their actions less is possible, or more is advanced over.
func TestP15TrimmedSchedulesReverseTheirChains(t *testing.T) {
	shorter := 0
	for seed := range int64(600) {
		v := inventions(seed + 5000)
		n := v.Int63n(8)
		slots := 1 + v.Int63n(8)
		list := v.reversal(n, slots)
		short := fineSchedule(t)(impl.TrimSchedule(list, n, slots))
		w := v.weightsOf(n)
		before, after := fineUsage(t)(impl.RunSchedule(list, w, slots)), fineUsage(t)(impl.RunSchedule(short, w, slots))
		if after.Cost > before.Cost || after.Advances > before.Advances || after.Slots > before.Slots || after.Loads > before.Loads || after.Stores > before.Stores {
			t.Errorf("%s uses %v, and %s uses %v", scheduleText(list), before, scheduleText(short), after)
		}
		if len(short) < len(list) {
			shorter++
		}
		if again := fineSchedule(t)(impl.TrimSchedule(short, n, slots)); !slices.Equal(again, short) {
			t.Errorf("%s is trimmed again to %s", scheduleText(short), scheduleText(again))
		}
	}
	if shorter < 300 {
		t.Errorf("%d schedules became shorter", shorter)
	}
}

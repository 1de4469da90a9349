package tests

import (
	"math"
	"slices"
	"testing"

	"loop.example/g01091/impl"
)

// checkpointFaults are all faults by their names.
func checkpointFaults(t *testing.T) map[string]fault[checkpointQuestion] {
	listOf := func(q *checkpointQuestion) *[]impl.Action { return &q.list }
	slotsOf := func(q *checkpointQuestion) *int64 { return &q.slots }
	wOf := func(q *checkpointQuestion) *[]int64 { return &q.w }
	argsOf := func(q *checkpointQuestion) *[]int64 { return &q.args }
	reverse := []impl.Action{action(impl.CkReverse, 0)}
	return map[string]fault[checkpointQuestion]{
		"p":        faultOf(impl.ErrInvalid, func(q *checkpointQuestion) *impl.Program { return &q.p }, faultyPrograms()...),
		"list":     faultOf(impl.ErrInvalid, listOf, faultySchedules()...),
		"w":        faultOf(impl.ErrInvalid, wOf, make([]int64, 41), []int64{-1}, []int64{1001, 1, 1}, []int64{1, 1, math.MinInt64}, []int64{1, math.MaxInt64, 1}, append(ones(40), -1)),
		"f":        faultOf(impl.ErrRange, func(q *checkpointQuestion) *int64 { return &q.f }, append(outside(impl.MaxFuncs), 1, 3, 4, 5)...),
		"args":     faultOf(impl.ErrRange, argsOf, faultyNumbers(2)...),
		"weights":  faultOf(impl.ErrRange, func(q *checkpointQuestion) *[]int64 { return &q.weights }, faultyNumbers(2)...),
		"n":        faultOf(impl.ErrRange, func(q *checkpointQuestion) *int64 { return &q.n }, outside(impl.MaxChain+1)...),
		"slots":    faultOf(impl.ErrRange, slotsOf, outside(impl.MaxSlots+1)...),
		"repeats":  faultOf(impl.ErrRange, func(q *checkpointQuestion) *int64 { return &q.repeats }, outside(impl.MaxChain+1)...),
		"count":    faultOf(impl.ErrRange, func(q *checkpointQuestion) *int64 { return &q.count }, outside(impl.MaxCount+1)...),
		"long":     faultOf(impl.ErrRange, wOf, ones(8), make([]int64, 9), ones(40)),
		"many":     faultOf(impl.ErrRange, slotsOf, 4, 5, 8),
		"reverses": faultOf(impl.ErrRange, listOf, slices.Repeat(reverse, 41), slices.Repeat(reverse, 400), append(slices.Repeat(schedule(t, "s0 a1 l0"), 40), slices.Repeat(reverse, 41)...)),
		"open":     faultOf(impl.ErrState, listOf, openSchedules(t)...),
		"short":    faultOf(impl.ErrNotFound, wOf, nil, []int64{0}, []int64{1000}),
		"dear":     faultOf(impl.ErrNotFound, func(q *checkpointQuestion) *int64 { return &q.cost }, math.MinInt64, -1, 0, 6),
		"zero":     faultOf(impl.ErrZero, argsOf, []int64{0, 2}, []int64{0, 0}, []int64{impl.P - 4, 4}),
		"none":     {impl.ErrState, []func(q *checkpointQuestion){func(q *checkpointQuestion) { q.slots, q.n = 0, 2 }, func(q *checkpointQuestion) { q.slots, q.n = 0, 40 }}},
		"named":    {impl.ErrState, []func(q *checkpointQuestion){rename(0), rename(2), rename(5)}},
		"full":     {impl.ErrLimit, []func(q *checkpointQuestion){fill}},
	}
}

// faultySchedules are lists that are no schedules.
func faultySchedules() [][]impl.Action {
	lists := [][]impl.Action{slices.Repeat([]impl.Action{action(impl.CkReverse, 0)}, 401), make([]impl.Action, 1), make([]impl.Action, 1000)}
	for a, valid := range actionsAtTheEdge() {
		if !valid {
			lists = append(lists, []impl.Action{a}, []impl.Action{action(impl.CkReverse, 0), a})
		}
	}
	return lists
}

// openSchedules reverse no chain with one slot, of as many steps as they have
// CkReverse or of 3 steps.
func openSchedules(t *testing.T) [][]impl.Action {
	var lists [][]impl.Action
	for _, text := range []string{"r r", "a1 r", "a2 r", "l0 r", "s1 r", "s0 a2 r l0 a1 r l0 r r", "s0 a2 r l0 a1 r l0 l1 r", "s0 a2 s0 r l0 a1 r l0 r", "s0 a3 r l0 a1 r l0 r", "s0 a1 r l0 a1 r l0 r", "s0 a2 r a1 r l0 r", "a1", "l0"} {
		lists = append(lists, schedule(t, text))
	}
	return lists
}

// rename calls a function of the program loop.
func rename(f int) func(q *checkpointQuestion) {
	return func(q *checkpointQuestion) {
		q.p = copyOfProgram(q.p)
		q.p.Funcs[f].Name = "loop"
	}
}

// fill puts functions behind those of the program until it has as many as possible.
func fill(q *checkpointQuestion) {
	q.p = copyOfProgram(q.p)
	for len(q.p.Funcs) < impl.MaxFuncs {
		q.p.Funcs = append(q.p.Funcs, function("last"+string(rune('a'+len(q.p.Funcs))), 1, variable(0)))
	}
}

// TestP15P16P17P18ErrorsComeInOrder has each fault alone, and each one together with
// all that are told later.
func TestP15P16P17P18ErrorsComeInOrder(t *testing.T) {
	faults, used := checkpointFaults(t), map[string]bool{}
	asked := func() checkpointQuestion { return checkpointAsked(t) }
	for _, f := range checkpointFunctions() {
		if !f.hasCode() {
			continue
		}
		want := int64(impl.OK)
		if f.name == "FirstBadAction" {
			want = impl.ErrNotFound
		}
		expectCheckpoint(t, f, checkpointAsked(t), want)
		inOrder(faults, f.faults, used, asked, func(q checkpointQuestion, want int64) {
			t.Helper()
			expectCheckpoint(t, f, q, want)
		})
	}
	if len(used) != len(faults) {
		t.Errorf("%d of %d faults", len(used), len(faults))
	}
}

// TestP15P16P17P18LimitsMayBeReached has the greatest numbers that are possible.
func TestP15P16P17P18LimitsMayBeReached(t *testing.T) {
	long := checkpointAsked(t)
	long.n, long.slots, long.repeats, long.count, long.w, long.args = 40, 8, 40, 8, constant(39, 1000), []int64{1, impl.P - 1}
	long.p, long.f, long.list = reading(t, "fib 2: x1 | (x0 + x1)\n"), 0, fineSchedule(t)(impl.BestSchedule(ones(40), 8))
	short := checkpointAsked(t)
	short.n, short.slots, short.repeats, short.count, short.w, short.list, short.args, short.weights = 0, 0, 0, 0, nil, nil, []int64{0, 0}, []int64{impl.P - 1, 0}
	for _, f := range checkpointFunctions() {
		if !f.hasCode() {
			continue
		}
		for k, q := range []checkpointQuestion{long, short} {
			want := int64(impl.OK)
			switch {
			case f.name == "FirstBadAction", f.name == "SplitOf" && k == 1, f.name == "LeastSlots" && k == 0:
				want = impl.ErrNotFound
			case f.name == "SearchCost" && k == 0:
				want = impl.ErrRange
			}
			expectCheckpoint(t, f, q, want)
		}
	}
	for _, w := range [][]int64{constant(6, 1000), {0, 1000, 0, 1000, 0, 1000, 0}, {1000, 0, 0, 0, 0, 0, 1000}, {0, 0, 0, 0, 0, 1000, 1000}} {
		checkSearch(t, w, 3)
	}
}

// TestP18FunctionsThatAreNoRounds are told with arguments that would be right.
func TestP18FunctionsThatAreNoRounds(t *testing.T) {
	for _, f := range append(outside(6), 1, 3, 4, 5) {
		q := checkpointAsked(t)
		q.f = f
		if f >= 0 && f < 6 {
			q.args, q.weights = make([]int64, q.p.Funcs[f].Params), make([]int64, q.p.Funcs[f].Params)
		}
		for _, n := range []int64{0, 1} {
			q.n, q.list = n, slices.Repeat([]impl.Action{action(impl.CkReverse, 0)}, int(n))
			for _, function := range roundFunctions() {
				if function.hasCode() {
					expectCheckpoint(t, function, q, impl.ErrRange)
				}
			}
		}
	}
}

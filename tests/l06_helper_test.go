package tests

import (
	"fmt"
	"slices"
	"strings"
	"testing"

	"loop.example/g01091/impl"
)

// checkpointQuestion has arguments for all functions of chapter 6.
type checkpointQuestion struct {
	p                    impl.Program
	f, n, slots          int64
	repeats, cost, count int64
	args, weights, w     []int64
	list                 []impl.Action
	text                 string
}

// checkpointFunction is a function of chapter 6 with the faults that its arguments
// can have, in the order in which they are told. The last of its results is its
// code, if it has one.
type checkpointFunction struct {
	name   string
	faults []string
	call   func(q checkpointQuestion) []any
}

// checkpointFunctions are all functions of chapter 6.
func checkpointFunctions() []checkpointFunction {
	return slices.Concat(scheduleFunctions(), costFunctions(), roundFunctions())
}

// scheduleFunctions are those of the section Chains and schedules.
func scheduleFunctions() []checkpointFunction {
	return []checkpointFunction{
		{"ValidSchedule", nil, func(q checkpointQuestion) []any { return results(impl.ValidSchedule(q.list)) }},
		{"ValidWeights", nil, func(q checkpointQuestion) []any { return results(impl.ValidWeights(q.w)) }},
		{"ScheduleText", nil, func(q checkpointQuestion) []any { return results(impl.ScheduleText(q.list)) }},
		{"ReadSchedule", nil, func(q checkpointQuestion) []any {
			list, code := impl.ReadSchedule(q.text)
			return results(list, code)
		}},
		{"RunSchedule", []string{"list", "w", "slots", "open"}, func(q checkpointQuestion) []any {
			u, code := impl.RunSchedule(q.list, q.w, q.slots)
			return results(u, code)
		}},
		{"FirstBadAction", []string{"list", "n", "slots"}, func(q checkpointQuestion) []any {
			k, code := impl.FirstBadAction(q.list, q.n, q.slots)
			return results(k, code)
		}},
		{"AdvancesOf", []string{"list", "n", "slots", "open"}, func(q checkpointQuestion) []any {
			list, code := impl.AdvancesOf(q.list, q.n, q.slots)
			return results(list, code)
		}},
		{"TrimSchedule", []string{"list", "n", "slots", "open"}, func(q checkpointQuestion) []any {
			list, code := impl.TrimSchedule(q.list, q.n, q.slots)
			return results(list, code)
		}},
	}
}

// costFunctions are those of the section The least cost.
func costFunctions() []checkpointFunction {
	return []checkpointFunction{
		{"LeastCost", []string{"w", "slots", "none"}, func(q checkpointQuestion) []any {
			cost, code := impl.LeastCost(q.w, q.slots)
			return results(cost, code)
		}},
		{"LeastSlots", []string{"w", "dear"}, func(q checkpointQuestion) []any {
			slots, code := impl.LeastSlots(q.w, q.cost)
			return results(slots, code)
		}},
		{"SplitOf", []string{"w", "slots", "short", "none"}, func(q checkpointQuestion) []any {
			split, code := impl.SplitOf(q.w, q.slots)
			return results(split, code)
		}},
		{"BestSchedule", []string{"w", "slots", "none"}, func(q checkpointQuestion) []any {
			list, code := impl.BestSchedule(q.w, q.slots)
			return results(list, code)
		}},
		{"SearchCost", []string{"w", "slots", "long", "many", "none"}, func(q checkpointQuestion) []any {
			cost, code := impl.SearchCost(q.w, q.slots)
			return results(cost, code)
		}},
		{"ChainReach", []string{"slots", "repeats"}, func(q checkpointQuestion) []any {
			reach, code := impl.ChainReach(q.slots, q.repeats)
			return results(reach, code)
		}},
		{"RepeatsNeeded", []string{"n", "slots", "none"}, func(q checkpointQuestion) []any {
			repeats, code := impl.RepeatsNeeded(q.n, q.slots)
			return results(repeats, code)
		}},
		{"FormulaCost", []string{"n", "slots", "none"}, func(q checkpointQuestion) []any {
			cost, code := impl.FormulaCost(q.n, q.slots)
			return results(cost, code)
		}},
	}
}

// roundFunctions are those of the section Rounds of a program.
func roundFunctions() []checkpointFunction {
	return []checkpointFunction{
		{"ValidRound", nil, func(q checkpointQuestion) []any { return results(impl.ValidRound(q.p, q.f)) }},
		{"RoundStates", []string{"p", "f", "args", "n", "zero"}, func(q checkpointQuestion) []any {
			states, code := impl.RoundStates(q.p, q.f, q.args, q.n)
			return results(states, code)
		}},
		{"RoundGradient", []string{"p", "f", "args", "weights", "n", "zero"}, func(q checkpointQuestion) []any {
			list, code := impl.RoundGradient(q.p, q.f, q.args, q.weights, q.n)
			return results(list, code)
		}},
		{"ReverseRounds", []string{"p", "list", "f", "args", "weights", "slots", "reverses", "open", "zero"}, func(q checkpointQuestion) []any {
			list, u, code := impl.ReverseRounds(q.p, q.f, q.args, q.weights, q.list, q.slots)
			return results(list, u, code)
		}},
		{"WithLoop", []string{"p", "f", "count", "named", "full"}, func(q checkpointQuestion) []any {
			p, code := impl.WithLoop(q.p, q.f, q.count)
			return results(p, code)
		}},
	}
}

// hasCode tells whether a function has a code.
func (f checkpointFunction) hasCode() bool { return len(f.faults) > 0 || f.name == "ReadSchedule" }

// roundsText is a program with the round 2, which divides by the variable 0.
const roundsText = "sq 1: (x0 * x0)\ng 2: x1\nr 2: (x0 + x1) | (sq.0(x1) / x0)\nk 0: 5\ntwo 1: x0 | x0\nthree 3: x0 | x1\n"

// checkpointAsked has valid arguments for all functions of chapter 6. There is just
// FirstBadAction that returns an error for them, as the schedule reverses the chain.
func checkpointAsked(t *testing.T) checkpointQuestion {
	t.Helper()
	return checkpointQuestion{
		p: reading(t, roundsText), f: 2, n: 3, slots: 1, repeats: 2, cost: 12, count: 3, args: []int64{3, 2}, weights: []int64{1, 4}, w: []int64{5, 2, 9},
		list: schedule(t, "s0 a2 r l0 a1 r l0 r"), text: "s0 a2 r l0 a1 r l0 r",
	}
}

// expectCheckpoint fails the test unless a call has a code, and nothing beside it if
// this is an error.
func expectCheckpoint(t *testing.T, f checkpointFunction, q checkpointQuestion, want int64) {
	t.Helper()
	expectResults(t, f.name, q, f.call(q), want)
}

// expectResults fails the test unless the results for some arguments end with a code,
// and have nothing beside it if this is an error.
func expectResults(t *testing.T, name string, q any, have []any, want int64) {
	t.Helper()
	if codeOf(have) != want {
		t.Errorf("%s of %s: %s, want the code %d", name, brief(q), brief(have), want)
	}
	if codeOf(have) != impl.OK && !isNothing(have[:len(have)-1]) {
		t.Errorf("%s of %s: %s beside the code %d", name, brief(q), brief(have), codeOf(have))
	}
}

// sameAnswers fails the test unless a call has the same results for arguments and for
// copies of them, and returns these.
func sameAnswers[Q any](t *testing.T, name string, call func(q Q) []any, q Q, copies ...Q) []any {
	t.Helper()
	have := call(q)
	for _, other := range copies {
		if a, b := fmt.Sprint(have...), fmt.Sprint(call(other)...); a != b {
			t.Fatalf("%s of %s: %s, and of a copy %s", name, brief(q), a, b)
		}
	}
	return have
}

// countCode counts how often functions have which codes, and fails the test if there is
// something beside an error.
func countCode(t *testing.T, codes map[string]int, name string, have []any) {
	t.Helper()
	codes[fmt.Sprint(name, " ", codeOf(have))]++
	if codeOf(have) != impl.OK && !isNothing(have[:len(have)-1]) {
		t.Errorf("%s returns %s", name, brief(have))
	}
}

// fault has the changes that make one thing wrong in arguments, and the code that
// tells it.
type fault[Q any] struct {
	code    int64
	changes []func(q *Q)
}

// faultOf makes a fault by all values that a field can be changed to.
func faultOf[Q, T any](code int64, field func(q *Q) *T, values ...T) fault[Q] {
	result := fault[Q]{code: code}
	for _, value := range values {
		result.changes = append(result.changes, func(q *Q) { *field(q) = value })
	}
	return result
}

// inOrder calls a test with each fault alone, and with each one together with all that
// are told later, and writes down which ones there are.
func inOrder[Q any](faults map[string]fault[Q], names []string, used map[string]bool, asked func() Q, expect func(q Q, want int64)) {
	for k, name := range names {
		used[name] = true
		for _, change := range faults[name].changes {
			q := asked()
			change(&q)
			expect(q, faults[name].code)
			for _, later := range names[k+1:] {
				for _, other := range faults[later].changes {
					q := asked()
					other(&q)
					change(&q)
					expect(q, faults[name].code)
				}
			}
		}
	}
}

// schedule is the schedule with a text, which has to be one.
func schedule(t *testing.T, text string) []impl.Action {
	t.Helper()
	list, code := impl.ReadSchedule(text)
	if code != impl.OK {
		t.Fatalf("%q is read with the code %d", text, code)
	}
	return list
}

// fineSchedule passes a schedule on if the code is OK.
func fineSchedule(t *testing.T) func(list []impl.Action, code int64) []impl.Action {
	return func(list []impl.Action, code int64) []impl.Action {
		t.Helper()
		if code != impl.OK || !impl.ValidSchedule(list) {
			t.Fatalf("%s with the code %d", scheduleText(list), code)
		}
		return list
	}
}

// fineUsage passes a usage on if the code is OK.
func fineUsage(t *testing.T) func(u impl.Usage, code int64) impl.Usage {
	return func(u impl.Usage, code int64) impl.Usage {
		t.Helper()
		if code != impl.OK {
			t.Fatalf("code %d, want OK", code)
		}
		return u
	}
}

func action(kind, arg int64) impl.Action { return impl.Action{Kind: kind, Arg: arg} }

// scheduleText is the text of a schedule, after the table of the document.
func scheduleText(list []impl.Action) string {
	if len(list) == 0 {
		return "-"
	}
	var words []string
	for _, action := range list {
		word := map[int64]string{impl.CkAdvance: "a", impl.CkStore: "s", impl.CkLoad: "l", impl.CkReverse: "r"}[action.Kind]
		if word != "r" {
			word += fmt.Sprint(action.Arg)
		}
		words = append(words, word)
	}
	return strings.Join(words, " ")
}

// ones are so many weights of 1.
func ones(n int64) []int64 { return slices.Repeat([]int64{1}, int(n)) }

// sumOf is the sum of integers.
func sumOf(list []int64) int64 {
	sum := int64(0)
	for _, number := range list {
		sum += number
	}
	return sum
}

// walk does the actions of schedules by the words of the document.
type walk struct {
	n, slots, current, left int64
	held                    map[int64]int64
	over                    []int64
	list                    []impl.Action
}

func walking(n, slots int64) *walk {
	return &walk{n: n, slots: slots, left: n, held: map[int64]int64{}, over: make([]int64, n)}
}

// can tells whether an action is possible.
func (k *walk) can(a impl.Action) bool {
	_, holds := k.held[a.Arg]
	return a.Kind == impl.CkAdvance && k.current+a.Arg < k.left || a.Kind == impl.CkStore && a.Arg < k.slots || a.Kind == impl.CkLoad && holds || a.Kind == impl.CkReverse && k.current == k.left-1
}

// do does an action, and tells whether it is possible.
func (k *walk) do(a impl.Action) bool {
	if !k.can(a) {
		return false
	}
	switch a.Kind {
	case impl.CkAdvance:
		for step := range k.n {
			if k.current <= step && k.current+a.Arg > step {
				k.over[step]++
			}
		}
		k.current += a.Arg
	case impl.CkStore:
		k.held[a.Arg] = k.current
	case impl.CkLoad:
		k.current = k.held[a.Arg]
	case impl.CkReverse:
		k.left--
	}
	k.list = append(k.list, a)
	return true
}

// walked are the actions that are possible one after the other, and whether they are
// all and reverse the chain.
func walked(list []impl.Action, n, slots int64) (*walk, bool) {
	k := walking(n, slots)
	for _, a := range list {
		if !k.do(a) {
			return k, false
		}
	}
	return k, k.left == 0
}

// usage is what has been used, with weights.
func (k *walk) usage(w []int64) impl.Usage {
	u := impl.Usage{Advances: sumOf(k.over)}
	for step, times := range k.over {
		u.Cost += times * w[step]
	}
	stored := map[int64]bool{}
	for _, a := range k.list {
		switch a.Kind {
		case impl.CkStore:
			u.Stores++
			stored[a.Arg] = true
		case impl.CkLoad:
			u.Loads++
		}
	}
	u.Slots = int64(len(stored))
	return u
}

// action makes an action that is possible at a walk, or one that is not.
func (v *invention) action(slots int64) impl.Action {
	kind := impl.CkAdvance + v.Int63n(4)
	switch kind {
	case impl.CkAdvance:
		return action(kind, 1+v.Int63n([]int64{2, 3, impl.MaxChain}[v.Intn(3)]))
	case impl.CkReverse:
		return action(kind, 0)
	}
	return action(kind, v.Int63n(max(slots, 1)))
}

// reversal makes a schedule that reverses a chain, which is not possible if there are
// several steps and no slots. The state 0 remains in one of the slots, and there may
// be actions that are of no use.
func (v *invention) reversal(n, slots int64) []impl.Action {
	k := walking(n, slots)
	safe := int64(-1)
	if n > 1 {
		safe = v.Int63n(slots)
		k.do(action(impl.CkStore, safe))
	}
	for k.left > 0 {
		a := v.action(slots)
		if a == action(impl.CkStore, safe) {
			continue
		}
		if v.Intn(3) == 0 {
			a = action(impl.CkReverse, 0)
		}
		if len(k.list) > 240 {
			// This way is always possible.
			if k.current > 0 {
				k.do(action(impl.CkLoad, safe))
			}
			if k.left > 1 {
				k.do(action(impl.CkAdvance, k.left-1))
			}
			a = action(impl.CkReverse, 0)
		}
		k.do(a)
	}
	for range v.Intn(3) {
		k.do(v.action(slots))
	}
	return k.list
}

// weightsOf makes so many weights, often equal ones.
func (v *invention) weightsOf(n int64) []int64 {
	top := []int64{1, 2, 4, 30, impl.MaxWeight + 1}[v.Intn(5)]
	list := make([]int64, n)
	for k := range list {
		list[k] = v.Int63n(top)
	}
	return list
}

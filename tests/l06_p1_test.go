package tests

import (
	"fmt"
	"slices"
	"strings"
	"testing"

	"loop.example/g01091/impl"
)

func (q *checkpointQuestion) lists() []any {
	return []any{q.p, q.args, q.weights, q.w, q.list}
}

// roomyCheckpoint is a copy in which all lists have unused capacity with known
// contents.
func roomyCheckpoint(q checkpointQuestion) checkpointQuestion {
	q.p, q.args, q.weights, q.w = roomyProgram(q.p), roomy(q.args), roomy(q.weights), roomy(q.w)
	q.list = append(slices.Clone(q.list), action(spare, spare), action(spare, spare), action(spare, spare))[:len(q.list)]
	return q
}

// emptyCheckpoint is a copy with empty lists in place of all that are nil.
func emptyCheckpoint(q checkpointQuestion) checkpointQuestion {
	q.p, q.args, q.weights, q.w = emptyProgram(q.p), append([]int64{}, q.args...), append([]int64{}, q.weights...), append([]int64{}, q.w...)
	q.list = append([]impl.Action{}, q.list...)
	return q
}

// checkpointQuestions have valid and invalid arguments of all kinds. Many rounds
// return an argument, and many chains have no step.
func checkpointQuestions(t *testing.T) []checkpointQuestion {
	list := []checkpointQuestion{checkpointAsked(t)}
	for _, fault := range checkpointFaults(t) {
		for k, change := range fault.changes {
			if k%5 == 0 {
				q := checkpointAsked(t)
				change(&q)
				list = append(list, q)
			}
		}
	}
	for _, c := range roundsByHand() {
		q := checkpointAsked(t)
		q.p, q.f, q.args, q.weights, q.n, q.count, q.cost = reading(t, c.text), 0, c.args, c.weights, c.n, c.n%9, c.n
		for slots := min(int64(1), max(c.n-1, 0)); slots <= 8; slots += 3 {
			v := inventions(slots)
			q.slots, q.w, q.list = slots, v.weightsOf(c.n), v.reversal(c.n, slots)
			q.text = impl.ScheduleText(q.list)
			list = append(list, q)
			q.text, q.w, q.list = q.text+" s0", v.weightsOf(min(c.n, 7)), append(q.list, action(impl.CkReverse, 0))
			list = append(list, q)
		}
	}
	for seed := range int64(40) {
		v, q := inventions(seed), checkpointAsked(t)
		q.p, q.f = v.round(seed%2 == 0)
		params := q.p.Funcs[q.f].Params
		q.args, q.weights, q.n, q.slots = v.numbers(params), v.numbers(params), v.Int63n(8), 1+v.Int63n(3)
		q.w, q.list = v.weightsOf(q.n), v.reversal(q.n, q.slots)
		list = append(list, q)
	}
	return list
}

func TestP1CheckpointsModifyNothingAndAreNewMemory(t *testing.T) {
	for _, plain := range checkpointQuestions(t) {
		for _, f := range checkpointFunctions() {
			q := roomyCheckpoint(plain)
			checkPureCall(t, f.name+" of "+brief(plain), q.lists(), func() []any { return f.call(q) })
		}
	}
}

func TestP1EqualCheckpointQuestionsHaveEqualAnswers(t *testing.T) {
	codes := map[string]int{}
	for _, q := range checkpointQuestions(t) {
		for _, f := range checkpointFunctions() {
			have := sameAnswers(t, f.name, f.call, q, roomyCheckpoint(q), emptyCheckpoint(q))
			if f.hasCode() {
				countCode(t, codes, f.name, have)
			}
		}
	}
	for _, f := range checkpointFunctions() {
		if f.hasCode() && codes[f.name+" 0"] < 20 {
			t.Errorf("%s has so often the codes %v", f.name, codes)
		}
	}
}

// TestP1OneListAsAllPartsOfARound has one list as arguments, weights of the outputs
// and weights of a chain.
func TestP1OneListAsAllPartsOfARound(t *testing.T) {
	p := reading(t, "rot 3: x1 | x2 | x0\nmix 3: (x0 * x1) | x1 | (x2 + x0)\n")
	for _, list := range [][]int64{{0, 1, 2}, {3, 1, 0}, {1, 1, 1}} {
		for f := range int64(2) {
			shared, q := roomy(list), checkpointAsked(t)
			q.p, q.f, q.args, q.weights, q.w = p, f, shared, shared, shared
			apart := q
			apart.args, apart.weights, apart.w = slices.Clone(list), slices.Clone(list), slices.Clone(list)
			for _, function := range checkpointFunctions() {
				have, want := fmt.Sprint(function.call(q)...), fmt.Sprint(function.call(apart)...)
				if have != want || !untouched(shared, list) {
					t.Errorf("%s of %v: %s, and of lists that are apart %s", function.name, list, have, want)
				}
			}
		}
	}
	leaf := []impl.Expr{variable(0), variable(1)}
	e := tree(impl.KMul, tree(impl.KSub, leaf...), tree(impl.KSub, leaf...))
	q, code := impl.WithLoop(program(function("f", 2, e, e), function("g", 2, e, e)), 1, 2)
	if code != impl.OK || overlap(memoryOf(q)) || overlap(append(memoryOf(q), memoryOf(leaf)...)) {
		t.Errorf("nodes of a loop share memory, with the code %d", code)
	}
}

// TestP1HugeCheckpointArgumentsAreAnswered has long lists and texts, and expressions of
// many nodes and levels.
func TestP1HugeCheckpointArgumentsAreAnswered(t *testing.T) {
	long := make([]int64, 1<<20)
	actions := slices.Repeat([]impl.Action{action(impl.CkReverse, 0)}, 1<<20)
	changes := map[string]func(q *checkpointQuestion){
		"list":    func(q *checkpointQuestion) { q.list = actions },
		"w":       func(q *checkpointQuestion) { q.w = long },
		"args":    func(q *checkpointQuestion) { q.args = long },
		"weights": func(q *checkpointQuestion) { q.weights = long },
	}
	for name, change := range changes {
		for _, f := range checkpointFunctions() {
			q := checkpointAsked(t)
			change(&q)
			have := f.call(q)
			want := int64(impl.ErrRange)
			if name == "list" || name == "w" {
				want = impl.ErrInvalid
			}
			if slices.Contains(f.faults, name) {
				expectCheckpoint(t, f, q, want)
			} else if f.name == "ValidSchedule" && have[0] != (name != "list") || f.name == "ValidWeights" && have[0] != (name != "w") {
				t.Errorf("%s with a long list: %v", f.name, have)
			}
		}
	}
	for _, e := range hugeExprs() {
		expectNoRounds(t, program(function("f", 1, e)))
	}
	for _, p := range []impl.Program{{Funcs: make([]impl.Func, 1<<20)}, program(function("f", 1, flatList(1<<20)...))} {
		expectNoRounds(t, p)
	}
	for _, text := range []string{strings.Repeat("r ", 1<<20), strings.Repeat("s", 1<<20), strings.Repeat("\n", 1<<20)} {
		expectCheckpoint(t, scheduleFunctions()[3], checkpointQuestion{text: text}, impl.ErrSyntax)
	}
}

// expectNoRounds expects ErrInvalid for a program of all functions of rounds.
func expectNoRounds(t *testing.T, p impl.Program) {
	t.Helper()
	q := checkpointQuestion{p: p, args: []int64{1}, weights: []int64{1}}
	for _, f := range roundFunctions() {
		if f.hasCode() {
			expectCheckpoint(t, f, q, impl.ErrInvalid)
		} else if have := f.call(q); have[0] != false {
			t.Errorf("%s of a huge program is %v", f.name, have)
		}
	}
}

// TestP1LongestSchedulesAreAnswered has rounds of most params and steps, and as many
// as a schedule can have.
func TestP1LongestSchedulesAreAnswered(t *testing.T) {
	body := textOf(impl.Program{}, flat(370))
	outs := "h.0^7(x0)"
	for k := range 11 {
		outs += fmt.Sprintf(" | (x%d + %d)", k, k)
	}
	p := reading(t, "h 1: ("+body+" * x0)\nf 12: "+outs+"\n")
	q := checkpointAsked(t)
	q.p, q.f, q.args, q.weights = p, 1, constant(11, impl.P-1), constant(11, impl.P-1)
	q.n, q.slots = 40, 1
	q.list = schedule(t, "s0"+strings.Repeat(" a39 l0", 140))
	for k := 39; k > 0; k-- {
		q.list = append(q.list, schedule(t, fmt.Sprintf("a%d r l0", k))...)
	}
	q.list = append(q.list, action(impl.CkReverse, 0))
	gradient, code := impl.RoundGradient(p, 1, q.args, q.weights, 40)
	have, u, other := impl.ReverseRounds(p, 1, q.args, q.weights, q.list, 1)
	if code != impl.OK || other != impl.OK || !slices.Equal(gradient, have) || u.Advances != 140*39+780 {
		t.Errorf("%v and %v, %v with the codes %d and %d", gradient, have, u, code, other)
	}
	sameNumber(t, "the length", int64(len(fineSchedule(t)(impl.TrimSchedule(q.list, 40, 1)))), 120)
	stores := slices.Repeat(schedule(t, "s0 s1 s2 s3 s4 s5 s6 s7"), 49)
	short := fineSchedule(t)(impl.TrimSchedule(append(append(stores, schedule(t, "a1 r l7 r")...), stores[:4]...), 2, 8))
	if text := scheduleText(short); text != "s7 a1 r l7 r" {
		t.Errorf("many stores become %s", text)
	}
}

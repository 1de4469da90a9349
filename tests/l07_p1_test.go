package tests

import (
	"fmt"
	"slices"
	"testing"

	"loop.example/g01091/impl"
)

func (q *solverQuestion) lists() []any {
	return []any{q.p, q.start, q.dir, q.side, q.y, q.sideOfSeries, q.matrix, q.ofSeries, q.q}
}

// roomySolver is a copy in which all lists have unused capacity with known contents.
func roomySolver(q solverQuestion) solverQuestion {
	q.p, q.q, q.start, q.dir, q.side = roomyProgram(q.p), roomyPoly(q.q), roomy(q.start), roomy(q.dir), roomy(q.side)
	q.y, q.sideOfSeries, q.matrix = roomyRows(q.y), roomyRows(q.sideOfSeries), roomyRows(q.matrix)
	var rows [][][]int64
	for _, row := range q.ofSeries {
		rows = append(rows, roomyRows(row))
	}
	q.ofSeries = append(rows, roomyRows([][]int64{{spare}}), roomyRows(nil))[:len(q.ofSeries)]
	return q
}

// emptySolver is a copy with empty lists in place of all that are nil.
func emptySolver(q solverQuestion) solverQuestion {
	q.p, q.q, q.start, q.dir, q.side = emptyProgram(q.p), emptyPoly(q.q), append([]int64{}, q.start...), append([]int64{}, q.dir...), append([]int64{}, q.side...)
	q.y, q.sideOfSeries, q.matrix = emptyRows(q.y), emptyRows(q.sideOfSeries), emptyRows(q.matrix)
	rows := [][][]int64{}
	for _, row := range q.ofSeries {
		rows = append(rows, emptyRows(row))
	}
	q.ofSeries = rows
	return q
}

// solverQuestions have valid and invalid arguments of all kinds. Many functions return
// an argument or a number, and many matrices are unit matrices.
func solverQuestions(t *testing.T) []solverQuestion {
	list := []solverQuestion{{}, solverAsked(t)}
	for _, fault := range solverFaults() {
		for k, change := range fault.changes {
			if k%5 == 0 {
				q := solverAsked(t)
				change(&q)
				list = append(list, q)
			}
		}
	}
	p := reading(t, "id 3: x0 | x1 | x2\neq 4: x1 | x2 | x3\nsame 3: x1 | x1 | x1\nnum 3: 5 | 5 | 5\nmore 4: (x3 - x0) | (x1 - x0) | (x2 - x1)\n")
	for order := range int64(impl.MaxOrder + 1) {
		for field := int64(0); field < 4; field++ {
			q := solverQuestion{p: p, equation: 1 + 3*(order%2), through: 0, field: field, smooth: field, seen: 2, pick: 1, order: order, start: []int64{0, 0, 0}, dir: []int64{4, 4, 4}, side: []int64{1, 2, 3}}
			q.y, q.sideOfSeries, q.q = constants(q.start, order), constants(q.side, order), polyWith(3, term(5, 0, 0, 1), term(6, 0, 1, 0))
			for k := range 3 {
				q.matrix = append(q.matrix, unit(2, k))
				q.ofSeries = append(q.ofSeries, constants(unit(2, k), order))
			}
			if field == 3 {
				slices.Reverse(q.matrix)
				slices.Reverse(q.ofSeries)
			}
			list = append(list, q)
		}
	}
	for seed := range int64(60) {
		list = append(list, inventions(seed).solver())
	}
	return list
}

// solver makes arguments of all functions, which are valid but for some that are
// meant for another function.
func (v *invention) solver() solverQuestion {
	p, start := v.equation(v.Intn(2) == 0)
	last := int64(len(p.Funcs) - 1)
	field := function("field", int64(len(start)))
	v.p, v.nodes = p, 60
	for range start {
		field.Outs = append(field.Outs, v.either(field.Params, v.Intn(2) == 0))
	}
	q := solverQuestion{p: program(append(slices.Clone(p.Funcs), field)...), equation: last, order: v.Int63n(5), start: start}
	q.through, q.field, q.smooth, q.seen = last+1, last+1, last+1, last+1
	side := int64(len(start))
	q.dir, q.side, q.matrix = v.numbers(side), v.numbers(side), v.square(side)
	q.y, q.sideOfSeries, q.q = v.spoiled(constants(start, q.order), 1), v.series(side, q.order), v.poly(side, 3, 5)
	for range side {
		q.ofSeries = append(q.ofSeries, v.series(side, q.order))
	}
	return q
}

func TestP1SolversModifyNothingAndAreNewMemory(t *testing.T) {
	for _, plain := range solverQuestions(t) {
		for _, f := range solverFunctions() {
			q := roomySolver(plain)
			checkPureCall(t, f.name+" of "+brief(plain), q.lists(), func() []any { return f.call(q) })
		}
	}
}

func TestP1EqualSolverQuestionsHaveEqualAnswers(t *testing.T) {
	codes := map[string]int{}
	for _, q := range solverQuestions(t) {
		for _, f := range solverFunctions() {
			have := sameAnswers(t, f.name, f.call, q, roomySolver(q), emptySolver(q))
			countCode(t, codes, f.name, have)
		}
	}
	for _, f := range solverFunctions() {
		if codes[f.name+" 0"] < 20 {
			t.Errorf("%s has so often the codes %v", f.name, codes)
		}
	}
}

// TestP1OneListInAllPlaces has one list as all rows of a matrix and its right side, as
// all series of a system, and as start and direction.
func TestP1OneListInAllPlaces(t *testing.T) {
	p := reading(t, "id 3: x0 | x1 | x2\neq 4: x1 | x2 | x3\nmix 3: (x0 * x1) | x1 | (x2 + x0)\n")
	for _, list := range [][]int64{{0, 0, 0}, {3, 1, 0}, {1, 1, 1}, {0, 2, 5}} {
		for _, field := range []int64{0, 2} {
			shared := roomy(list)
			row := [][]int64{shared, shared, shared}
			exps := term(1, shared...)
			q := solverQuestion{p: p, equation: 1, through: field, field: field, smooth: field, seen: field, order: 3, start: shared, dir: shared, side: shared, y: row, sideOfSeries: row, matrix: row, ofSeries: [][][]int64{row, row, row}, q: polyWith(3, exps)}
			apart := emptySolver(q)
			for _, f := range solverFunctions() {
				have, want := f.call(q), f.call(apart)
				if fmt.Sprint(have...) != fmt.Sprint(want...) || !untouched(shared, list) {
					t.Errorf("%s of %v: %s, and of lists that are apart %s", f.name, list, brief(have), brief(want))
				}
				if overlap(memoryOf(have...)) || overlap(append(memoryOf(have...), memoryOf(shared)...)) {
					t.Errorf("%s of %v: a result shares memory", f.name, list)
				}
			}
		}
	}
	single := roomy([]int64{7})
	q := solverQuestion{side: single, matrix: [][]int64{single}, sideOfSeries: [][]int64{single}, ofSeries: [][][]int64{{single}}}
	for _, f := range linearFunctions()[:4] {
		have := f.call(q)
		if codeOf(have) != impl.OK || overlap(append(memoryOf(have...), memoryOf(single)...)) || !untouched(single, []int64{7}) {
			t.Errorf("%s of one number: %v", f.name, have)
		}
	}
}

// TestP1HugeSolverArgumentsAreAnswered has long lists in each place, and expressions of
// many nodes and levels.
func TestP1HugeSolverArgumentsAreAnswered(t *testing.T) {
	long := make([]int64, 1<<20)
	rows := slices.Repeat([][]int64{{1, 0}}, 1<<20)
	terms := slices.Repeat([]impl.Term{term(1, 0, 0)}, 1<<20)
	changes := []struct {
		name string
		code int64
		call func(q *solverQuestion)
	}{
		{"start", impl.ErrRange, func(q *solverQuestion) { q.start = long }}, {"dir", impl.ErrRange, func(q *solverQuestion) { q.dir = long }}, {"side", impl.ErrInvalid, func(q *solverQuestion) { q.side = long }},
		{"y", impl.ErrRange, func(q *solverQuestion) { q.y = rows }}, {"y", impl.ErrRange, func(q *solverQuestion) { q.y = [][]int64{long, long} }},
		{"sideOfSeries", impl.ErrInvalid, func(q *solverQuestion) { q.sideOfSeries = rows }}, {"sideOfSeries", impl.ErrInvalid, func(q *solverQuestion) { q.sideOfSeries = [][]int64{long, long} }},
		{"matrix", impl.ErrInvalid, func(q *solverQuestion) { q.matrix = rows }}, {"matrix", impl.ErrInvalid, func(q *solverQuestion) { q.matrix = [][]int64{long, long} }},
		{"ofSeries", impl.ErrInvalid, func(q *solverQuestion) { q.ofSeries = slices.Repeat([][][]int64{rows[:2]}, 1<<20) }}, {"ofSeries", impl.ErrInvalid, func(q *solverQuestion) { q.ofSeries = [][][]int64{rows, rows} }}, {"ofSeries", impl.ErrInvalid, func(q *solverQuestion) { q.ofSeries = [][][]int64{{long, long}, {long, long}} }},
		{"q", impl.ErrInvalid, func(q *solverQuestion) { q.q = polyWith(2, terms...) }}, {"q", impl.ErrInvalid, func(q *solverQuestion) { q.q = polyWith(2, term(1, long...)) }}, {"q", impl.ErrInvalid, func(q *solverQuestion) { q.q = polyWith(1 << 62) }},
	}
	for _, change := range changes {
		for _, f := range solverFunctions() {
			q, want := solverAsked(t), int64(impl.OK)
			change.call(&q)
			if slices.Contains(f.faults, change.name) {
				want = change.code
			}
			expectSolver(t, f, q, want)
		}
	}
	programs := []impl.Program{{Funcs: make([]impl.Func, 1<<20)}, program(function("f", 1, flatList(1<<20)...))}
	for _, e := range hugeExprs() {
		programs = append(programs, program(function("f", 1, e)))
	}
	for _, p := range programs {
		for _, f := range slices.Concat(implicitFunctions(), flowFunctions(), lieFunctions()) {
			expectSolver(t, f, solverQuestion{p: p, start: []int64{1}, dir: []int64{1}, y: [][]int64{{1}}, q: polyWith(1)}, impl.ErrInvalid)
		}
	}
}

// TestP1LargestSolversAreAnswered has functions of most params and steps, for the
// greatest order.
func TestP1LargestSolversAreAnswered(t *testing.T) {
	body := textOf(impl.Program{}, flat(300))
	field, equation, through := "h.0^7(x0)", "(x1 * h.0^7(x1))", "h.0^7(x0)"
	for k := 1; k < 12; k++ {
		field += fmt.Sprintf(" | (x%d / x0)", k)
	}
	for k := 2; k < 7; k++ {
		equation += fmt.Sprintf(" | ((x%d / (x0 + 1)) - x%d)", k, k-1)
		through += fmt.Sprintf(" | (x%d * x0)", k-1)
	}
	p := reading(t, "h 1: (x0 / "+body+")\nfield 12: "+field+"\neq 7: "+equation+"\nmap 6: "+through+"\n")
	q := solverQuestion{p: p, equation: 2, through: 3, field: 1, seen: 1, pick: 11, order: impl.MaxOrder, start: constant(11, 3), dir: constant(11, impl.P-1)}
	q.y = constants(q.start, impl.MaxOrder)
	for _, f := range append(flowFunctions(), lieFunctions()[2]) {
		expectSolver(t, f, q, impl.OK)
	}
	q.start, q.dir = constant(5, 3), constant(5, impl.P-1)
	q.y = constants(q.start, impl.MaxOrder)
	for _, f := range implicitFunctions()[1:] {
		expectSolver(t, f, q, impl.OK)
	}
	q.start = make([]int64, 6)
	expectSolver(t, implicitFunctions()[0], q, impl.ErrZero)
}

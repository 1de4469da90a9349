package tests

import (
	"fmt"
	"slices"
	"testing"

	"loop.example/g01091/impl"
)

// solverFaults are all faults by their names.
func solverFaults() map[string]fault[solverQuestion] {
	startOf := func(q *solverQuestion) *[]int64 { return &q.start }
	yOf := func(q *solverQuestion) *[][]int64 { return &q.y }
	matrixOf := func(q *solverQuestion) *[][]int64 { return &q.matrix }
	seriesOf := func(q *solverQuestion) *[][][]int64 { return &q.ofSeries }
	equationOf := func(q *solverQuestion) *int64 { return &q.equation }
	throughOf := func(q *solverQuestion) *int64 { return &q.through }
	smoothOf := func(q *solverQuestion) *int64 { return &q.smooth }
	seenOf := func(q *solverQuestion) *int64 { return &q.seen }
	polyOf := func(q *solverQuestion) *impl.Poly { return &q.q }
	return map[string]fault[solverQuestion]{
		"p":              faultOf(impl.ErrInvalid, func(q *solverQuestion) *impl.Program { return &q.p }, faultyPrograms()...),
		"matrix":         faultOf(impl.ErrInvalid, matrixOf, faultyMatrices()...),
		"side":           faultOf(impl.ErrInvalid, func(q *solverQuestion) *[]int64 { return &q.side }, faultyNumbers(2)...),
		"singular":       faultOf(impl.ErrZero, matrixOf, [][]int64{{0, 0}, {0, 0}}, [][]int64{{0, 1}, {0, 1}}, [][]int64{{2, 4}, {500003, 1000006 - impl.P}}),
		"ofSeries":       faultOf(impl.ErrInvalid, seriesOf, faultySystems()...),
		"sideOfSeries":   faultOf(impl.ErrInvalid, func(q *solverQuestion) *[][]int64 { return &q.sideOfSeries }, faultyPaths(2)...),
		"singularSeries": faultOf(impl.ErrZero, seriesOf, [][][]int64{{{0, 1}, {0, 0}}, {{0, 0}, {0, 1}}}, [][][]int64{{{1, 1}, {1, 0}}, {{1, 0}, {1, 1}}}, [][][]int64{{{0, 1}, {1, 0}}, {{0, 0}, {1, 1}}}),
		"equation":       faultOf(impl.ErrRange, equationOf, append(outside(11), 0, 3, 5, 9, 10)...),
		"through":        faultOf(impl.ErrRange, throughOf, append(outside(11), 1, 8, 9, 10)...),
		"field":          faultOf(impl.ErrRange, func(q *solverQuestion) *int64 { return &q.field }, append(outside(11), 1, 8, 9, 10)...),
		"smooth":         faultOf(impl.ErrRange, smoothOf, append(outside(11), 1, 8, 9, 10)...),
		"seen":           faultOf(impl.ErrRange, seenOf, append(outside(11), 0, 1, 2, 9, 10)...),
		"pick":           faultOf(impl.ErrRange, func(q *solverQuestion) *int64 { return &q.pick }, outside(2)...),
		"start":          faultOf(impl.ErrRange, startOf, faultyNumbers(2)...),
		"dir":            faultOf(impl.ErrRange, func(q *solverQuestion) *[]int64 { return &q.dir }, faultyNumbers(2)...),
		"order":          faultOf(impl.ErrRange, func(q *solverQuestion) *int64 { return &q.order }, outside(impl.MaxOrder+1)...),
		"y":              faultOf(impl.ErrRange, yOf, faultyPaths(2)...),
		"zero":           faultOf(impl.ErrZero, startOf, []int64{0, 2}, []int64{0, 0}),
		"zeroAlong":      faultOf(impl.ErrZero, yOf, [][]int64{{0}, {2}}, [][]int64{{0, 1}, {2, 1}}, [][]int64{constant(12, 0), constant(12, 7)}),
		"unsolved":       faultOf(impl.ErrState, startOf, []int64{3, 1}, []int64{1, 6}, []int64{4, 2}, []int64{impl.P - 1, impl.P - 1}),
		"flat":           faultOf(impl.ErrZero, equationOf, 2),
		"flatAlong":      faultOf(impl.ErrZero, equationOf, 2),
		"flatMap":        faultOf(impl.ErrZero, throughOf, 4),
		"q":              faultOf(impl.ErrInvalid, polyOf, faultyPolys()...),
		"vars":           faultOf(impl.ErrRange, polyOf, polyWith(0), polyWith(1, term(1, 1)), polyWith(3), polyWith(12), polyWith(0, term(5))),
		"rough":          faultOf(impl.ErrState, smoothOf, 3, 4),
		"divides":        faultOf(impl.ErrZero, smoothOf, 6),
		"great":          faultOf(impl.ErrLimit, polyOf, polyWith(2, term(1, 12, 0)), polyWith(2, term(1, 1, 1), term(2, 1, 11)), polyWith(2, term(7, 6, 6))),
		"unseen":         {impl.ErrZero, []func(q *solverQuestion){func(q *solverQuestion) { q.seen, q.pick = 8, min(q.pick, 0) }}},
	}
}

// faultyMatrices are lists that are no square matrices.
func faultyMatrices() [][][]int64 {
	lists := [][][]int64{
		{{}}, {{}, {}}, {{1, 2}}, {{1}, {2}}, {{1, 2}, {3}}, {{1, 2}, {}}, {{1}, {2, 3}}, {{1, 2}, {3, 4, 5}}, {{1, 2, 3}, {4, 5, 6}}, {{1, 2}, {3, 4}, {5, 6}}, {{1, 2, 3}, {4, 5, 6}, {7, 8}},
		slices.Repeat([][]int64{make([]int64, 7)}, 7), slices.Repeat([][]int64{make([]int64, 6)}, 7), slices.Repeat([][]int64{make([]int64, 7)}, 6), slices.Repeat([][]int64{make([]int64, 1000)}, 1000), make([][]int64, 1), make([][]int64, 7),
	}
	for _, faulty := range faultyNumbers(2) {
		lists = append(lists, [][]int64{faulty, {1, 2}}, [][]int64{{1, 2}, faulty})
	}
	return lists
}

// faultySystems are lists that are no square matrices of series of one order.
func faultySystems() [][][][]int64 {
	one := []int64{1, 0}
	square := func(rows, columns int) [][][]int64 {
		return slices.Repeat([][][]int64{slices.Repeat([][]int64{one}, columns)}, rows)
	}
	lists := [][][][]int64{square(1, 2), square(2, 1), square(2, 3), square(3, 2), square(7, 7), square(2, 0), square(100, 100), {{one, one}, {one}}, {{one}, {one, one}}, {{one, one}, {one, one, one}}}
	for _, faulty := range faultyPaths(2) {
		lists = append(lists, [][][]int64{faulty, {one, one}}, [][][]int64{{one, one}, faulty})
	}
	for _, other := range [][]int64{{1}, {1, 0, 0}} {
		lists = append(lists, [][][]int64{{other, other}, {other, other}})
	}
	return lists
}

// faultyPolys are no polynomials.
func faultyPolys() []impl.Poly {
	return []impl.Poly{
		polyWith(13), polyWith(-1), polyWith(2, term(0, 1, 1)), polyWith(2, term(impl.P, 1, 1)), polyWith(2, term(-1, 1, 1)), polyWith(2, term(1, 1)), polyWith(2, term(1, 1, 1, 1)), polyWith(2, term(1, 12, 1)),
		polyWith(2, term(1, -1, 1)), polyWith(2, term(1, 1, 0), term(1, 0, 1)), polyWith(2, term(1, 1, 0), term(1, 1, 0)), manyTerms(3, 121),
	}
}

// TestP19P20P21P22P23ErrorsComeInOrder has each fault alone, and each one together with
// all that are told later.
func TestP19P20P21P22P23ErrorsComeInOrder(t *testing.T) {
	faults, used := solverFaults(), map[string]bool{}
	asked := func() solverQuestion { return solverAsked(t) }
	for _, f := range solverFunctions() {
		expectSolver(t, f, solverAsked(t), impl.OK)
		inOrder(faults, f.faults, used, asked, func(q solverQuestion, want int64) {
			t.Helper()
			expectSolver(t, f, q, want)
		})
	}
	if len(used) != len(faults) {
		t.Errorf("%d of %d faults", len(used), len(faults))
	}
}

// TestP19SidesOfOtherLengths has unit matrices, of which some are too great, with right
// sides and starts that do or do not belong to them.
func TestP19SidesOfOtherLengths(t *testing.T) {
	for rows := range impl.MaxSide + 3 {
		for count := range impl.MaxSide + 4 {
			q := solverQuestion{side: make([]int64, count), start: make([]int64, count), sideOfSeries: constants(make([]int64, count), 2)}
			for k := range rows {
				q.matrix = append(q.matrix, unit(rows-1, k))
				q.ofSeries = append(q.ofSeries, constants(unit(rows-1, k), 2))
			}
			want := map[string]int64{"SolveLinear": impl.ErrInvalid, "SolveSeries": impl.ErrInvalid, "LinearFlow": impl.ErrRange}
			switch {
			case rows > impl.MaxSide:
				want = map[string]int64{"SolveLinear": impl.ErrInvalid, "DeterminantOf": impl.ErrInvalid, "InverseMatrix": impl.ErrInvalid, "SolveSeries": impl.ErrInvalid, "LinearFlow": impl.ErrInvalid}
			case rows == count:
				want = nil
			}
			for _, f := range linearFunctions() {
				expectSolver(t, f, q, want[f.name])
			}
		}
	}
}

// kindsOfFunctions are programs that have a function for each number of params and of
// outs. Where the outs are not the params, they are the last ones of them.
func kindsOfFunctions() []impl.Program {
	var list []impl.Program
	for params := range int64(impl.MaxParams + 1) {
		p := program()
		for outs := int64(1); outs <= impl.MaxParams; outs++ {
			f := function("f"+string(rune('a'+outs)), params)
			for k := range outs {
				if place := params - outs + k; place >= 0 {
					f.Outs = append(f.Outs, variable(place))
				} else {
					f.Outs = append(f.Outs, num(k))
				}
			}
			p.Funcs = append(p.Funcs, f)
		}
		list = append(list, p)
	}
	return list
}

// TestP20P21P22P23KindsOfFunctions has each number of params and of outs: just some of
// them are equations, maps and fields.
func TestP20P21P22P23KindsOfFunctions(t *testing.T) {
	for _, p := range kindsOfFunctions() {
		for f, function := range p.Funcs {
			params, outs := function.Params, int64(len(function.Outs))
			kinds := map[string]bool{"equation": params == outs+1 && outs <= 6, "through": params == outs && outs <= 6, "field": params == outs, "smooth": params == outs}
			for _, count := range []int64{params, outs, params - 1, 0, 6, 12} {
				q := solverQuestion{p: p, equation: int64(f), through: int64(f), field: int64(f), smooth: int64(f), seen: int64(f), start: make([]int64, max(count, 0)), dir: make([]int64, max(count, 0)), q: polyWith(count)}
				q.y, q.order = constants(q.start, int64(f)), int64(f)
				for _, called := range slices.Concat(implicitFunctions(), flowFunctions(), lieFunctions()) {
					want := int64(impl.ErrRange)
					kind := called.faults[1]
					if kind == "q" {
						kind = "smooth"
					}
					if kinds[kind] && count == outs {
						want = impl.OK
					} else if kind == "smooth" && count < 0 {
						want = impl.ErrInvalid
					}
					expectSolver(t, called, q, want)
				}
			}
		}
	}
}

// budgetOf is a program with functions that need so many steps: an equation that is
// solved by 0, and a field that is a map as well.
func budgetOf(t *testing.T, steps int, last string) impl.Program {
	t.Helper()
	body, rest := textOf(impl.Program{}, flat(398)), textOf(impl.Program{}, flat(steps-2793))
	more := "((h.0^7(0) + " + rest + ") * 0)"
	return reading(t, "h 1: "+body+"\neq 2: (x1 + "+more+")"+"\nfield 1: (x0 + "+more+")\ntwo 3: (x1 + "+more+") | "+last+"\nboth 2: (x0 + "+more+") | "+last+"\n")
}

// TestP20P21P22P23LimitOfSteps has functions that need just as many steps as there can
// be, and one more, for all orders.
func TestP20P21P22P23LimitOfSteps(t *testing.T) {
	for _, steps := range []int{3000, 3001} {
		p := budgetOf(t, steps, "1")
		want := int64(impl.OK)
		if steps > impl.MaxSteps {
			want = impl.ErrBudget
		}
		for _, order := range []int64{0, 1, 2} {
			q := solverQuestion{p: p, equation: 1, through: 2, field: 2, smooth: 2, seen: 2, order: order, start: []int64{0}, dir: []int64{1}, y: constants([]int64{0}, order), q: polyWith(1, term(1, 1))}
			for _, f := range slices.Concat(implicitFunctions(), flowFunctions(), lieFunctions()) {
				expectSolver(t, f, q, want)
			}
		}
	}
	q := solverQuestion{p: budgetOf(t, 3001, "1"), seen: 2, start: []int64{0}}
	q.p.Funcs = append(q.p.Funcs, function("quick", 1, variable(0)))
	q.field = int64(len(q.p.Funcs) - 1)
	expectSolver(t, lieFunctions()[2], q, impl.ErrBudget)
}

// TestP20P21P22P23DivisionsAndStepsComeInOrder has a division by 0 ahead of the last
// step, and one behind it.
func TestP20P21P22P23DivisionsAndStepsComeInOrder(t *testing.T) {
	for _, c := range []struct {
		steps int
		last  string
		want  int64
	}{
		{2996, "x1", impl.OK}, {2999, "x1", impl.OK}, {3000, "x1", impl.ErrBudget}, {2997, "(1 / x1)", impl.ErrZero}, {2998, "(1 / x1)", impl.ErrBudget}, {3001, "(1 / 0)", impl.ErrBudget}, {2900, "(1 / (x1 - x1))", impl.ErrZero},
	} {
		p := budgetOf(t, c.steps, c.last)
		for order := range int64(3) {
			q := solverQuestion{p: p, equation: 3, through: 4, field: 4, order: order, start: []int64{0, 0}, dir: []int64{1, 1}, y: constants([]int64{0, 0}, order)}
			for _, f := range flowFunctions() {
				expectSolver(t, f, q, c.want)
			}
			expectSolver(t, implicitFunctions()[2], q, c.want)
			expectSolver(t, implicitFunctions()[3], q, c.want)
			// The slopes of this equation are singular.
			singular := c.want
			if singular == impl.OK {
				singular = impl.ErrZero
			}
			expectSolver(t, implicitFunctions()[0], q, singular)
			expectSolver(t, implicitFunctions()[1], q, singular)
		}
	}
}

// TestP20ErrorsOfEquations has equations with several errors at the same place.
func TestP20ErrorsOfEquations(t *testing.T) {
	for _, c := range []struct {
		text  string
		start []int64
		want  int64
	}{
		{"f 2: (x1 * x1)\n", []int64{1}, impl.ErrState}, {"f 2: (x1 * x1)\n", []int64{0}, impl.ErrZero}, {"f 2: (x0 + 1)\n", []int64{0}, impl.ErrState}, {"f 2: (1 / x0)\n", []int64{1}, impl.ErrZero}, {"f 3: 1 | (1 / x0)\n", []int64{1, 1}, impl.ErrZero}, {"f 3: x1 | 1\n", []int64{0, 1}, impl.ErrState}, {"f 3: 1 | x1\n", []int64{0, 1}, impl.ErrState},
		{"f 2: (x1 / (x1 - 1))\n", []int64{1}, impl.ErrZero}, {"f 2: (x1 / (x1 - 1))\n", []int64{0}, impl.OK}, {"f 2: ((x1 * x1) - 1)\n", []int64{impl.P - 1}, impl.OK}, {"f 2: ((x1 * x1) - 1)\n", []int64{2}, impl.ErrState}, {"f 2: if(x1; x1; (1 / 0))\n", []int64{0}, impl.OK}, {"f 2: if(x1; x1; (1 / 0))\n", []int64{1}, impl.ErrZero},
	} {
		p := reading(t, c.text)
		for order := range int64(impl.MaxOrder + 1) {
			expectSolver(t, implicitFunctions()[0], solverQuestion{p: p, start: c.start, order: order}, c.want)
		}
	}
}

// TestP22ErrorsAtTheStartRemain for flows of the order 0, which need no value of the
// field.
func TestP22ErrorsAtTheStartRemain(t *testing.T) {
	p := reading(t, "f 1: (1 / x0)\ng 1: (x0 / (x0 - x0))\ns 1: 5\nd 1: (1 / (x0 - 1))\n")
	for _, c := range []struct{ field, start, seen, want int64 }{{0, 0, 2, impl.ErrZero}, {0, 1, 2, impl.OK}, {1, 7, 2, impl.ErrZero}, {2, 1, 3, impl.OK}, {0, 1, 3, impl.OK}} {
		for _, order := range []int64{0, 1, impl.MaxOrder} {
			q := solverQuestion{p: p, field: c.field, seen: 2, start: []int64{c.start}, dir: []int64{1}, order: order, y: constants([]int64{c.start}, order)}
			for _, f := range append(flowFunctions(), lieFunctions()[2]) {
				expectSolver(t, f, q, c.want)
			}
			if c.want == impl.OK && c.seen == 3 {
				q.seen = 3
				expectSolver(t, lieFunctions()[2], q, impl.ErrZero)
			}
		}
		if c.want == impl.OK {
			sameRows(t, "the flow of the order 0", fineRows(t)(impl.FlowOf(p, c.field, []int64{c.start}, 0)), [][]int64{{c.start}})
			sameRows(t, "the variation of the order 0", fineRows(t)(impl.VariationOf(p, c.field, []int64{c.start}, []int64{9}, 0)), [][]int64{{9}})
			sameRows(t, "the step of the order 0", fineRows(t)(impl.PicardStep(p, c.field, [][]int64{{c.start}})), [][]int64{{c.start}})
			if !fineBool(t)(impl.CheckFlow(p, c.field, [][]int64{{c.start}})) {
				t.Error("series of the order 0 are no flow")
			}
		}
	}
}

// TestP23ErrorsOfPolynomials come as PolyOf has them, for all outputs.
func TestP23ErrorsOfPolynomials(t *testing.T) {
	for _, c := range []struct {
		text string
		want int64
	}{
		{"x0 | (1 / x0)", impl.ErrState}, {"(1 / x0) | x0", impl.ErrState}, {"x0 | if(x1; 1; 2)", impl.ErrState}, {"x0 | (x1 / 0)", impl.ErrZero}, {"(x1 / 0) | (1 / x0)", impl.ErrZero}, {"(1 / x0) | (x1 / 0)", impl.ErrState}, {"x0 | (x1 / (x1 - x1))", impl.ErrZero},
		{"x0 | p.0^4(x1)", impl.ErrLimit}, {"p.0^4(x1) | (x1 / 0)", impl.ErrLimit}, {"x0 | (p.0^4(x1) * 0)", impl.ErrLimit}, {"x0 | p.0^3(x1)", impl.OK}, {"x0 | if((x1 - x1); 1; (1 / 0))", impl.OK},
	} {
		p := reading(t, "p 1: (x0 * x0)\nf 2: "+c.text+"\n")
		for _, q := range []impl.Poly{polyWith(2), polyWith(2, term(1, 0, 0)), polyWith(2, term(1, 1, 0)), polyWith(2, term(1, 0, 1))} {
			for _, f := range lieFunctions()[:2] {
				expectSolver(t, f, solverQuestion{p: p, smooth: 1, q: q}, c.want)
			}
			_, code := impl.PolyOf(p, 1, 0)
			sameNumber(t, fmt.Sprint("the code of PolyOf of ", c.text), code, c.want)
		}
	}
}

package tests

import (
	"slices"
	"testing"

	"loop.example/g01091/impl"
)

// solverQuestion has arguments for all functions of chapter 7: a matrix and a right side
// of numbers, and of series, and a program with the indices of an equation, a map, a
// field, a field that has polynomials, and a function that is seen along the flow.
type solverQuestion struct {
	p                         impl.Program
	equation, through, field  int64
	smooth, seen, pick, order int64
	start, dir, side          []int64
	y, sideOfSeries, matrix   [][]int64
	ofSeries                  [][][]int64
	q                         impl.Poly
}

// solverFunction is a function of chapter 7 with the faults that its arguments can
// have, in the order in which they are told. The last of its results is its code.
type solverFunction struct {
	name   string
	faults []string
	call   func(q solverQuestion) []any
}

// solverFunctions are all functions of chapter 7.
func solverFunctions() []solverFunction {
	return slices.Concat(linearFunctions(), implicitFunctions(), flowFunctions(), lieFunctions())
}

// linearFunctions are those of the section Linear systems, and the flow of a matrix.
func linearFunctions() []solverFunction {
	return []solverFunction{
		{"SolveLinear", []string{"matrix", "side", "singular"}, func(q solverQuestion) []any {
			x, code := impl.SolveLinear(q.matrix, q.side)
			return results(x, code)
		}},
		{"DeterminantOf", []string{"matrix"}, func(q solverQuestion) []any {
			d, code := impl.DeterminantOf(q.matrix)
			return results(d, code)
		}},
		{"InverseMatrix", []string{"matrix", "singular"}, func(q solverQuestion) []any {
			rows, code := impl.InverseMatrix(q.matrix)
			return results(rows, code)
		}},
		{"SolveSeries", []string{"ofSeries", "sideOfSeries", "singularSeries"}, func(q solverQuestion) []any {
			x, code := impl.SolveSeries(q.ofSeries, q.sideOfSeries)
			return results(x, code)
		}},
		{"LinearFlow", []string{"matrix", "start", "order"}, func(q solverQuestion) []any {
			y, code := impl.LinearFlow(q.matrix, q.start, q.order)
			return results(y, code)
		}},
	}
}

// implicitFunctions are those of the section Implicit functions.
func implicitFunctions() []solverFunction {
	return []solverFunction{
		{"ImplicitSeries", []string{"p", "equation", "start", "order", "zero", "unsolved", "flat"}, func(q solverQuestion) []any {
			y, code := impl.ImplicitSeries(q.p, q.equation, q.start, q.order)
			return results(y, code)
		}},
		{"NewtonStep", []string{"p", "equation", "y", "zeroAlong", "flatAlong"}, func(q solverQuestion) []any {
			y, code := impl.NewtonStep(q.p, q.equation, q.y)
			return results(y, code)
		}},
		{"ResidueOrder", []string{"p", "equation", "y", "zeroAlong"}, func(q solverQuestion) []any {
			m, code := impl.ResidueOrder(q.p, q.equation, q.y)
			return results(m, code)
		}},
		{"InversePath", []string{"p", "through", "start", "dir", "order", "zero", "flatMap"}, func(q solverQuestion) []any {
			x, code := impl.InversePath(q.p, q.through, q.start, q.dir, q.order)
			return results(x, code)
		}},
	}
}

// flowFunctions are those of the section Flows that have a program.
func flowFunctions() []solverFunction {
	return []solverFunction{
		{"FlowOf", []string{"p", "field", "start", "order", "zero"}, func(q solverQuestion) []any {
			y, code := impl.FlowOf(q.p, q.field, q.start, q.order)
			return results(y, code)
		}},
		{"PicardStep", []string{"p", "field", "y", "zeroAlong"}, func(q solverQuestion) []any {
			y, code := impl.PicardStep(q.p, q.field, q.y)
			return results(y, code)
		}},
		{"CheckFlow", []string{"p", "field", "y", "zeroAlong"}, func(q solverQuestion) []any {
			yes, code := impl.CheckFlow(q.p, q.field, q.y)
			return results(yes, code)
		}},
		{"VariationOf", []string{"p", "field", "start", "dir", "order", "zero"}, func(q solverQuestion) []any {
			z, code := impl.VariationOf(q.p, q.field, q.start, q.dir, q.order)
			return results(z, code)
		}},
	}
}

// lieFunctions are those of the section Lie derivatives.
func lieFunctions() []solverFunction {
	return []solverFunction{
		{"LiePoly", []string{"p", "q", "smooth", "vars", "rough", "divides", "great"}, func(q solverQuestion) []any {
			lie, code := impl.LiePoly(q.p, q.smooth, q.q)
			return results(lie, code)
		}},
		{"IsConserved", []string{"p", "q", "smooth", "vars", "rough", "divides", "great"}, func(q solverQuestion) []any {
			yes, code := impl.IsConserved(q.p, q.smooth, q.q)
			return results(yes, code)
		}},
		{"ObservableAlong", []string{"p", "field", "seen", "pick", "start", "order", "zero", "unseen"}, func(q solverQuestion) []any {
			list, code := impl.ObservableAlong(q.p, q.field, q.start, q.seen, q.pick, q.order)
			return results(list, code)
		}},
	}
}

// solverText is a program with an equation that is solved by 3 and 2, and others of all
// kinds. All but the last three divide by the first number that is given.
const solverText = "sq 1: (x0 * x0)\neq 3: (x1 - (3 + x0)) | ((6 / x1) - x2)\nflat 3: (x1 - (3 + x0)) | (((6 / x1) - 2) + sq.0((x2 - 2)))\n" +
	"field 2: (x0 + x1) | (sq.0(x1) / x0)\nflatmap 2: ((x0 + x1) / x0) | (5 * ((x0 + x1) / x0))\nsmooth 2: sq.0(x1) | neg(x0)\nzero 2: x0 | (x1 / 0)\n" +
	"seen 2: (x0 * x1) | x1\nunseen 2: (1 / (x0 - 3))\none 1: x0 | x0\nk 0: 5\n"

// solverAsked has valid arguments for all functions of chapter 7.
func solverAsked(t *testing.T) solverQuestion {
	t.Helper()
	return solverQuestion{
		p: reading(t, solverText), equation: 1, through: 3, field: 3, smooth: 5, seen: 7, pick: 1, order: 2,
		start: []int64{3, 2}, dir: []int64{1, 4}, side: []int64{3, 2}, y: [][]int64{{3, 1}, {2, 5}}, matrix: [][]int64{{2, 1}, {1, 1}},
		ofSeries: [][][]int64{{{0, 1}, {1, 4}}, {{1, 2}, {5, 0}}}, sideOfSeries: [][]int64{{1, 2}, {0, 1}}, q: polyWith(2, term(1, 0, 2), term(3, 2, 0)),
	}
}

// expectSolver fails the test unless a call has a code, and nothing beside it if this
// is an error.
func expectSolver(t *testing.T, f solverFunction, q solverQuestion, want int64) {
	t.Helper()
	expectResults(t, f.name, q, f.call(q), want)
}

// fineBool passes a truth on if the code is OK.
func fineBool(t *testing.T) func(yes bool, code int64) bool {
	return func(yes bool, code int64) bool {
		t.Helper()
		if code != impl.OK {
			t.Fatalf("code %d, want OK", code)
		}
		return yes
	}
}

// square makes a matrix of so many rows, often with many zeros.
func (v *invention) square(side int64) [][]int64 {
	rows := v.series(side, side-1)
	if v.Intn(2) == 0 {
		for _, row := range rows {
			for k := range row {
				row[k] *= v.Int63n(2)
			}
		}
	}
	return rows
}

// expanded is the determinant of a matrix by its first row, and those of the matrices
// without this row and a column.
func expanded(rows [][]int64) int64 {
	if len(rows) == 0 {
		return 1
	}
	sum, sign := int64(0), int64(1)
	for k, number := range rows[0] {
		sum = impl.Residue(sum + sign*impl.Times(number, expanded(withoutColumn(rows[1:], k))))
		sign = -sign
	}
	return sum
}

// withoutColumn is a matrix without a column.
func withoutColumn[V any](rows [][]V, k int) [][]V {
	var rest [][]V
	for _, row := range rows {
		rest = append(rest, slices.Concat(row[:k], row[k+1:]))
	}
	return rest
}

// rowsOfSeriesTimes are the sums of rows whose elements are multiplied by a list of
// series of the same order.
func rowsOfSeriesTimes(t *testing.T, rows [][][]int64, list [][]int64) [][]int64 {
	t.Helper()
	var sums [][]int64
	for _, row := range rows {
		sum := make([]int64, len(list[0]))
		for k := range row {
			sum = fine(t)(impl.AddSeries(sum, fine(t)(impl.MulSeries(row[k], list[k]))))
		}
		sums = append(sums, sum)
	}
	return sums
}

// differences are the series of a list minus those of another one.
func differences(a, b [][]int64) [][]int64 {
	var list [][]int64
	for k := range a {
		list = append(list, moved(a[k], b[k], impl.P-1))
	}
	return list
}

// constants are the series of an order of numbers.
func constants(numbers []int64, order int64) [][]int64 {
	var list [][]int64
	for _, number := range numbers {
		list = append(list, beginning(make([]int64, order+1), number))
	}
	return list
}

// timeOf is the series t of an order.
func timeOf(order int64) []int64 {
	return append([]int64{0, 1}, make([]int64, impl.MaxOrder)...)[:order+1]
}

// jetsWith are series as polynomials of the variable 0, to which so many times the
// variable 1 is added.
func jetsWith(lists, slopes [][]int64) []jet {
	var args []jet
	for k, list := range lists {
		arg := jetOf(list)
		for power, number := range slopes[k] {
			arg[exponents{int64(power), 1}] = number
		}
		args = append(args, arg)
	}
	return args
}

// factorsOf is the series of the factors of a power of the variable 1.
func (a jet) factorsOf(power, order int64) []int64 {
	list := make([]int64, order+1)
	for x, number := range a {
		if x[1] == power && x[0] <= order {
			list[x[0]] = number
		}
	}
	return list
}

// slopesAlong are the outputs of a function for series, and their factors of s if s
// times other series are added to these, by polynomials.
func slopesAlong(p impl.Program, f int64, lists, dirs [][]int64) ([][]int64, [][]int64, int64) {
	order := int64(len(lists[0])) - 1
	outs, code := jetsOf(p, f, jetsWith(lists, dirs), order+1)
	var values, slopes [][]int64
	for _, out := range outs {
		values, slopes = append(values, out.factorsOf(0, order)), append(slopes, out.factorsOf(1, order))
	}
	return values, slopes, code
}

// slopeRows are the series of the slopes of all outputs for the unknowns of an
// equation.
func slopeRows(t *testing.T, p impl.Program, f int64, y [][]int64) [][][]int64 {
	t.Helper()
	order := int64(len(y[0])) - 1
	rows := make([][][]int64, len(y))
	for unknown := range y {
		dirs := slices.Repeat([][]int64{make([]int64, order+1)}, len(y)+1)
		dirs[unknown+1] = unit(int(order), 0)
		_, slopes, code := slopesAlong(p, f, slices.Concat([][]int64{timeOf(order)}, y), dirs)
		if code != impl.OK {
			t.Fatalf("the code %d of slopes", code)
		}
		for k, slope := range slopes {
			rows[k] = append(rows[k], slope)
		}
	}
	return rows
}

// residuesOf are the outputs of an equation for series.
func residuesOf(t *testing.T, p impl.Program, f int64, y [][]int64) [][]int64 {
	t.Helper()
	return fineRows(t)(impl.EvaluateSeries(p, f, slices.Concat([][]int64{timeOf(int64(len(y[0])) - 1)}, y)))
}

// equation makes a program whose last function is an equation that a start solves, as
// the values there are taken from its outputs. The slopes may be singular, though often
// multiples of the unknowns are added.
func (v *invention) equation(divides bool) (impl.Program, []int64) {
	for {
		p := v.program(v.Intn(3))
		unknowns := 1 + v.Int63n(3)
		f := function("equation", unknowns+1)
		v.nodes = 80
		mixes := v.Intn(4) > 0
		for k := range unknowns {
			out := v.either(unknowns+1, divides)
			if mixes {
				out = tree(impl.KAdd, out, tree(impl.KMul, num(1+v.Int63n(5)), variable(k+1)))
			}
			f.Outs = append(f.Outs, out)
		}
		start := v.numbers(unknowns)
		q := program(append(slices.Clone(p.Funcs), f)...)
		values, _, code := impl.Evaluate(q, int64(len(p.Funcs)), slices.Concat([]int64{0}, start))
		if code != impl.OK {
			continue
		}
		for k, value := range values {
			f.Outs[k] = tree(impl.KSub, f.Outs[k], num(value))
		}
		return q, start
	}
}

// either makes an expression of all kinds, or a polynomial.
func (v *invention) either(vars int64, divides bool) impl.Expr {
	if divides {
		return v.expr(vars, 4)
	}
	return v.polynomial(vars, 3, 3)
}

// changedAt is a copy of series in which one coefficient is different.
func changedAt(lists [][]int64, which, place int, by int64) [][]int64 {
	copies := slices.Clone(lists)
	copies[which] = slices.Clone(lists[which])
	copies[which][place] = impl.Plus(copies[which][place], by)
	return copies
}

// spoiled are copies of series in which all coefficients from a place on are others.
func (v *invention) spoiled(lists [][]int64, from int) [][]int64 {
	copies := slices.Clone(lists)
	for k, list := range lists {
		copies[k] = slices.Concat(list[:from], v.numbers(int64(len(list)-from)))
	}
	return copies
}

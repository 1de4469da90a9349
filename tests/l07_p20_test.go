package tests

import (
	"fmt"
	"slices"
	"strings"
	"testing"

	"loop.example/g01091/impl"
)

func TestP20Example(t *testing.T) {
	p := reading(t, "f 2: (((x1 * x1) - 1) - x0)\n")
	sameRows(t, "the square root", fineRows(t)(impl.ImplicitSeries(p, 0, []int64{1}, 2)), [][]int64{{1, 500002, 375001}})
	next := fineRows(t)(impl.NewtonStep(p, 0, [][]int64{{1, 0, 0}}))
	sameRows(t, "the step", next, [][]int64{{1, 500002, 0}})
	sameNumber(t, "the order", fineNumber(t)(impl.ResidueOrder(p, 0, next)), 2)
}

// equationsByHand have solutions that are known.
func equationsByHand() []struct {
	text  string
	start []int64
	y     [][]int64
} {
	zeros := make([]int64, 11)
	units := constant(12, 0)
	units[0] = 6
	return []struct {
		text  string
		start []int64
		y     [][]int64
	}{
		{"f 2: (x1 - (1 + (x0 * (x1 * x1))))\n", []int64{1}, [][]int64{{1, 1, 2, 5, 14, 42, 132, 429, 1430, 4862, 16796, 58786, 208012}}},
		{"f 2: (x1 - (1 + (x0 * x1)))\n", []int64{1}, [][]int64{constant(12, 1)}},
		{"f 2: ((1 / x1) - (1 + x0))\n", []int64{1}, [][]int64{{1, impl.P - 1, 1, impl.P - 1, 1, impl.P - 1, 1, impl.P - 1, 1, impl.P - 1, 1, impl.P - 1, 1}}},
		{"f 2: x1\n", []int64{0}, [][]int64{append([]int64{0, 0}, zeros...)}},
		{"f 2: (x1 - x0)\n", []int64{0}, [][]int64{append([]int64{0, 1}, zeros...)}},
		{"f 2: ((x1 * x1) - 36)\n", []int64{6}, [][]int64{units}},
		{"f 3: (x2 - x0) | ((x1 - 1) - (x0 * x1))\n", []int64{1, 0}, [][]int64{constant(12, 1), append([]int64{0, 1}, zeros...)}},
		{"f 3: (x1 - (1 + (x0 * x2))) | (x2 - (1 + (x0 * x1)))\n", []int64{1, 1}, [][]int64{constant(12, 1), constant(12, 1)}},
		{"f 2: if(x0; (x1 - x0); 1)\n", []int64{0}, [][]int64{append([]int64{0, 1}, zeros...)}},
		{"f 2: if((x0 + x1); (x1 - 3); (x1 - (2 + x0)))\n", []int64{2}, [][]int64{append([]int64{2, 1}, zeros...)}},
		{"sq 1: (x0 * x0)\nf 2: let((x1 - x0); (sq.0^2(x2) - sq.0(4)))\n", []int64{2}, [][]int64{append([]int64{2, 1}, zeros...)}},
	}
}

func TestP20EquationsByHand(t *testing.T) {
	for _, c := range equationsByHand() {
		p := reading(t, c.text)
		f := int64(len(p.Funcs) - 1)
		for order := range int64(impl.MaxOrder + 1) {
			sameRows(t, c.text, fineRows(t)(impl.ImplicitSeries(p, f, c.start, order)), beginnings(c.y, order+1))
			if !checkImplicit(t, inventions(order), p, f, c.start, order) {
				t.Errorf("%s has singular slopes", c.text)
			}
		}
	}
}

// checkImplicit compares everything that there is for an equation that a start solves,
// and tells whether it has a solution.
func checkImplicit(t *testing.T, v *invention, p impl.Program, f int64, start []int64, order int64) bool {
	t.Helper()
	name := fmt.Sprint("the series of ", brief(textOfProgram(p)), " from ", start)
	at := slices.Concat([]int64{0}, start)
	rows := fineRows(t)(impl.JacobianOf(p, f, at))
	y, code := impl.ImplicitSeries(p, f, start, order)
	if expanded(withoutColumn(rows, 0)) == 0 {
		if code != impl.ErrZero || len(y) > 0 {
			t.Errorf("%s: %v with the code %d", name, y, code)
		}
		return false
	}
	same(t, name, column(fineRows(t)(y, code), 0), start)
	zeros := slices.Repeat([][]int64{make([]int64, order+1)}, len(start))
	sameRows(t, "the residues of "+name, residuesOf(t, p, f, y), zeros)
	sameRows(t, "the tape with "+name, fineRows(t)(impl.TapeSeries(recorded(t, p, f, at), slices.Concat([][]int64{timeOf(order)}, y))), zeros)
	sameNumber(t, "the order of "+name, fineNumber(t)(impl.ResidueOrder(p, f, y)), order+1)
	sameRows(t, "the step from "+name, fineRows(t)(impl.NewtonStep(p, f, y)), y)
	lower := v.Int63n(order + 1)
	sameRows(t, "a lower order of "+name, fineRows(t)(impl.ImplicitSeries(p, f, start, lower)), beginnings(y, lower+1))
	if order > 0 {
		checkOnlyOne(t, v, p, f, y)
		checkSlopes(t, p, f, at, column(y, 1))
	}
	for right := 1; right <= int(order); right++ {
		checkNewton(t, p, f, v.spoiled(y, right), y, right)
	}
	return true
}

// checkOnlyOne changes one coefficient of series that solve an equation: just the
// coefficients of the residues ahead of that one remain 0.
func checkOnlyOne(t *testing.T, v *invention, p impl.Program, f int64, y [][]int64) {
	t.Helper()
	place := 1 + v.Intn(len(y[0])-1)
	for k := range y {
		other := changedAt(y, k, place, 1+v.Int63n(impl.P-1))
		sameNumber(t, fmt.Sprint("the order of ", other, " in place of ", y), fineNumber(t)(impl.ResidueOrder(p, f, other)), int64(place))
	}
}

// checkSlopes puts the coefficients of t^1 into the derivative of the equation, whose
// rows are swept backwards over its tape.
func checkSlopes(t *testing.T, p impl.Program, f int64, at, slopes []int64) {
	t.Helper()
	tape := recorded(t, p, f, at)
	for k := range slopes {
		row := fine(t)(impl.TapeReverse(tape, at, unit(len(slopes)-1, k)))
		sameNumber(t, "the derivative of the equation", dot(row, slices.Concat([]int64{1}, slopes)), 0)
	}
}

// checkNewton does a step from series of which so many coefficients are those of the
// solution, and compares it with slopes that are found by polynomials.
func checkNewton(t *testing.T, p impl.Program, f int64, from, y [][]int64, right int) {
	t.Helper()
	next := fineRows(t)(impl.NewtonStep(p, f, from))
	first := int64(min(2*right, len(y[0])))
	sameRows(t, fmt.Sprint("twice ", right, " coefficients of ", y), beginnings(next, first), beginnings(y, first))
	if order := fineNumber(t)(impl.ResidueOrder(p, f, next)); order < first {
		t.Errorf("the step from %v has the order %d, want %d", from, order, first)
	}
	checkStep(t, p, f, from, next)
}

// checkStep puts what a step takes off into the linear system of the slopes.
func checkStep(t *testing.T, p impl.Program, f int64, from, next [][]int64) {
	t.Helper()
	change := differences(from, next)
	sameRows(t, fmt.Sprint("the slopes times the step from ", from), rowsOfSeriesTimes(t, slopeRows(t, p, f, from), change), residuesOf(t, p, f, from))
}

func TestP20ManyEquations(t *testing.T) {
	counts := map[bool]int{}
	for seed := range int64(250) {
		v := inventions(seed)
		p, start := v.equation(seed%2 == 0)
		order := v.Int63n([]int64{4, 4, 4, impl.MaxOrder + 1}[seed%4])
		counts[checkImplicit(t, v, p, int64(len(p.Funcs)-1), start, order)]++
	}
	if counts[true] < 100 || counts[false] < 30 {
		t.Errorf("so many equations have a solution: %v", counts)
	}
}

// TestP20StepsFromAnywhere has series that begin with other numbers than a solution.
func TestP20StepsFromAnywhere(t *testing.T) {
	counts := map[int64]int{}
	for seed := range int64(300) {
		v := inventions(seed)
		p, start := v.equation(seed%2 == 0)
		f, order := int64(len(p.Funcs)-1), v.Int63n(4)
		y := v.series(int64(len(start)), order)
		_, outs := impl.EvaluateSeries(p, f, slices.Concat([][]int64{timeOf(order)}, y))
		next, code := impl.NewtonStep(p, f, y)
		_, other := impl.ResidueOrder(p, f, y)
		sameNumber(t, "the code of ResidueOrder", other, outs)
		counts[code]++
		if outs != impl.OK {
			sameNumber(t, "the code of NewtonStep", code, outs)
			continue
		}
		if expanded(beginningsOf(slopeRows(t, p, f, y))) == 0 {
			sameNumber(t, "the code of a step with singular slopes", code, impl.ErrZero)
			continue
		}
		checkStep(t, p, f, y, fineRows(t)(next, code))
		first := slices.IndexFunc(transposedLists(residuesOf(t, p, f, y)), func(list []int64) bool { return slices.Max(list) > 0 })
		if first < 0 {
			first = int(order) + 1
		}
		sameNumber(t, fmt.Sprint("the order of ", y), fineNumber(t)(impl.ResidueOrder(p, f, y)), int64(first))
	}
	if counts[impl.OK] < 100 || counts[impl.ErrZero] < 30 {
		t.Errorf("so many steps have the codes %v", counts)
	}
}

// transposedLists has the elements of lists of one length, of which there is at least
// one, by their places.
func transposedLists(lists [][]int64) [][]int64 {
	var columns [][]int64
	for k := range lists[0] {
		columns = append(columns, column(lists, k))
	}
	return columns
}

func TestP20StepsByHand(t *testing.T) {
	for _, c := range []struct {
		text       string
		from, next [][]int64
		order      int64
	}{
		// 2 - 3 / 4, and the order 0 of 3
		{"f 2: (((x1 * x1) - 1) - x0)\n", [][]int64{{2}}, [][]int64{{250002}}, 0},
		{"f 2: (((x1 * x1) - 1) - x0)\n", [][]int64{{1}}, [][]int64{{1}}, 1},
		{"f 2: (((x1 * x1) - 1) - x0)\n", [][]int64{{1, 0}}, [][]int64{{1, 500002}}, 1},
		{"f 2: (((x1 * x1) - 1) - x0)\n", [][]int64{{1, 500002, 0, 0}}, [][]int64{{1, 500002, 375001, 312501}}, 2},
		{"f 2: (x1 - x0)\n", [][]int64{{5, 6, 7}}, [][]int64{{0, 1, 0}}, 0},
		{"f 2: (x1 - x0)\n", [][]int64{{0, 1, 7}}, [][]int64{{0, 1, 0}}, 2},
		{"f 2: (x1 - x0)\n", [][]int64{{0, 1, 0}}, [][]int64{{0, 1, 0}}, 3},
		{"f 3: (x2 - x0) | (x1 - 4)\n", [][]int64{{4, 0}, {0, 3}}, [][]int64{{4, 0}, {0, 1}}, 1},
		{"f 3: (x2 - x0) | (x1 - 4)\n", [][]int64{{3, 0}, {0, 1}}, [][]int64{{4, 0}, {0, 1}}, 0},
		{"f 3: (x2 - x0) | (x1 - 4)\n", [][]int64{{4, 9}, {0, 1}}, [][]int64{{4, 0}, {0, 1}}, 1},
		{"f 3: (x2 * x2) | (x1 + 0)\n", [][]int64{{0, 0, 0}, {2, 0, 0}}, [][]int64{{0, 0, 0}, {1, 0, 0}}, 0},
	} {
		p := reading(t, c.text)
		sameRows(t, fmt.Sprint("the step of ", c.text, " from ", c.from), fineRows(t)(impl.NewtonStep(p, 0, c.from)), c.next)
		sameNumber(t, fmt.Sprint("the order of ", c.from), fineNumber(t)(impl.ResidueOrder(p, 0, c.from)), c.order)
	}
}

// TestP20MostUnknowns has systems of as many equations as possible. The unknowns of the
// first one are the powers of 1 + t.
func TestP20MostUnknowns(t *testing.T) {
	outs := []string{"(x1 - (1 + x0))"}
	for k := 2; k <= impl.MaxSide; k++ {
		outs = append(outs, fmt.Sprintf("(x%d - (x%d * x1))", k, k-1))
	}
	slices.Reverse(outs)
	p := reading(t, "f 7: "+strings.Join(outs, " | ")+"\n")
	y := fineRows(t)(impl.ImplicitSeries(p, 0, constant(5, 1), impl.MaxOrder))
	power := unit(impl.MaxOrder, 0)
	for _, list := range y {
		power = fine(t)(impl.MulSeries(power, beginning(timeOf(impl.MaxOrder), 1)))
		same(t, "a power", list, power)
	}
	for seed := range int64(10) {
		v := inventions(seed)
		f := function("f", impl.MaxSide+1)
		start := v.numbers(impl.MaxSide)
		for range impl.MaxSide {
			f.Outs = append(f.Outs, v.polynomial(impl.MaxSide+1, 2, 4))
		}
		values, _, _ := impl.Evaluate(program(f), 0, slices.Concat([]int64{0}, start))
		for k, value := range values {
			mixed := tree(impl.KAdd, tree(impl.KSub, f.Outs[k], num(value)), tree(impl.KMul, num(int64(k)+2), tree(impl.KSub, variable(int64(k)+1), num(start[k]))))
			f.Outs[k] = mixed
		}
		checkImplicit(t, v, program(f), 0, start, 2)
	}
}

// TestP20SingularSlopes has equations that a start solves, but whose slopes tell no
// series, or not only one, and determinants that are 0 just for t^0.
func TestP20SingularSlopes(t *testing.T) {
	for _, c := range []struct {
		text  string
		start []int64
	}{
		{"f 2: ((x1 * x1) - x0)\n", []int64{0}}, {"f 2: (x1 * x1)\n", []int64{0}}, {"f 2: x0\n", []int64{5}}, {"f 2: 0\n", []int64{5}}, {"f 2: (x0 * x1)\n", []int64{5}},
		{"f 2: if((x1 - 2); 0; x1)\n", []int64{2}}, {"f 3: (x1 - x2) | ((x1 * 2) - (2 * x2))\n", []int64{3, 3}}, {"f 3: x1 | (x1 + x0)\n", []int64{0, 0}}, {"f 3: (x2 + x1) | (x1 + ((1 + x0) * x2))\n", []int64{0, 0}},
	} {
		p := reading(t, c.text)
		for order := range int64(impl.MaxOrder + 1) {
			y, code := impl.ImplicitSeries(p, 0, c.start, order)
			next, other := impl.NewtonStep(p, 0, constants(c.start, order))
			if code != impl.ErrZero || other != impl.ErrZero || len(y) > 0 || len(next) > 0 {
				t.Errorf("%s: %v and %v with the codes %d and %d", c.text, y, next, code, other)
			}
			if _, code := impl.ResidueOrder(p, 0, constants(c.start, order)); code != impl.OK {
				t.Errorf("%s: the order has the code %d", c.text, code)
			}
		}
	}
}

// TestP20PivotsThatAreZero has slopes whose first ones are 0, but not the determinant.
func TestP20PivotsThatAreZero(t *testing.T) {
	p := reading(t, "f 4: (x2 - (x0 * x1)) | (x3 - (2 + x2)) | (x1 - (1 + x0))\n")
	for order := range int64(impl.MaxOrder + 1) {
		want := [][]int64{{1, 1, 0}, {0, 1, 1}, {2, 1, 1}}
		for k := range want {
			want[k] = append(want[k], make([]int64, impl.MaxOrder)...)
		}
		sameRows(t, "the series", fineRows(t)(impl.ImplicitSeries(p, 0, []int64{1, 0, 2}, order)), beginnings(want, order+1))
		checkImplicit(t, inventions(order), p, 0, []int64{1, 0, 2}, order)
	}
}

// TestP20ResiduesOfSeries counts the first coefficients of all residues that are 0.
func TestP20ResiduesOfSeries(t *testing.T) {
	p := reading(t, "f 3: x1 | x2\n")
	for order := range impl.MaxOrder + 1 {
		for first := range order + 2 {
			for second := range order + 2 {
				y := [][]int64{make([]int64, order+1), make([]int64, order+1)}
				for k, place := range []int{first, second} {
					if place <= order {
						y[k][place] = impl.P - 1
					}
				}
				sameNumber(t, fmt.Sprint("the order of ", y), fineNumber(t)(impl.ResidueOrder(p, 0, y)), int64(min(first, second)))
			}
		}
	}
}

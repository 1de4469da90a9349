package tests

import (
	"fmt"
	"slices"
	"strconv"
	"strings"
	"testing"

	"loop.example/g01091/impl"
)

func TestP19Example(t *testing.T) {
	a := [][]int64{{2, 1}, {1, 1}}
	same(t, "the solution", fine(t)(impl.SolveLinear(a, []int64{3, 2})), []int64{1, 1})
	sameNumber(t, "the determinant", fineNumber(t)(impl.DeterminantOf(a)), 1)
	sameRows(t, "the inverse", fineRows(t)(impl.InverseMatrix(a)), [][]int64{{1, impl.P - 1}, {impl.P - 1, 2}})
}

// matricesByHand have determinants that are known.
func matricesByHand() map[string]int64 {
	return map[string]int64{
		"[]": 1, "[[0]]": 0, "[[1]]": 1, "[[1000002]]": impl.P - 1, "[[7]]": 7,
		"[[0 1] [1 0]]": impl.P - 1, "[[0 0] [0 0]]": 0, "[[1 1] [1 1]]": 0, "[[0 2] [3 5]]": impl.P - 6, "[[0 1] [0 2]]": 0, "[[0 0] [1 2]]": 0, "[[1 2] [3 4]]": impl.P - 2,
		"[[500002 1] [1 2]]": 0, "[[500002 1] [2 2]]": impl.P - 1,
		"[[0 1 0] [0 0 1] [1 0 0]]": 1, "[[0 0 1] [0 1 0] [1 0 0]]": impl.P - 1, "[[1 2 3] [4 5 6] [7 8 9]]": 0, "[[1 2 3] [4 5 6] [7 8 10]]": impl.P - 3, "[[1 1 0] [1 1 1] [0 1 1]]": impl.P - 1,
		"[[0 0 0 1] [1 0 0 0] [0 1 0 0] [0 0 1 0]]": impl.P - 1, "[[0 1 0 0] [1 0 0 0] [0 0 0 1] [0 0 1 0]]": 1, "[[2 0 0 0] [9 3 0 0] [9 9 5 0] [9 9 9 7]]": 210,
		"[[1 1 1 1 1 1] [1 2 4 8 16 32] [1 3 9 27 81 243] [1 4 16 64 256 1024] [1 5 25 125 625 3125] [1 6 36 216 1296 7776]]": 34560,
		"[[0 0 0 0 0 1] [0 0 0 0 1 0] [0 0 0 1 0 0] [0 0 1 0 0 0] [0 1 0 0 0 0] [1 0 0 0 0 0]]":                               impl.P - 1,
	}
}

// matrixOf is the matrix with a text as fmt prints it.
func matrixOf(t *testing.T, text string) [][]int64 {
	t.Helper()
	rows := [][]int64{}
	for _, line := range strings.FieldsFunc(text, func(char rune) bool { return char == '[' || char == ']' }) {
		var row []int64
		for _, word := range strings.Fields(line) {
			number, _ := strconv.ParseInt(word, 10, 64)
			row = append(row, number)
		}
		if len(row) > 0 {
			rows = append(rows, row)
		}
	}
	if fmt.Sprint(rows) != text {
		t.Fatalf("%v is read from %q", rows, text)
	}
	return rows
}

func TestP19MatricesByHand(t *testing.T) {
	for text, want := range matricesByHand() {
		a := matrixOf(t, text)
		sameNumber(t, "the determinant of "+text, fineNumber(t)(impl.DeterminantOf(a)), want)
		checkMatrix(t, inventions(want), a)
	}
	for _, c := range []struct {
		text    string
		side, x []int64
	}{
		{"[]", nil, nil}, {"[[2]]", []int64{1}, []int64{500002}}, {"[[2]]", []int64{0}, []int64{0}}, {"[[0 1] [1 0]]", []int64{3, 4}, []int64{4, 3}}, {"[[0 2] [3 5]]", []int64{4, 11}, []int64{666669, 2}},
		{"[[1 2 3] [4 5 6] [7 8 10]]", []int64{6, 15, 25}, []int64{1, 1, 1}}, {"[[0 1 0] [0 0 1] [1 0 0]]", []int64{1, 2, 3}, []int64{3, 1, 2}},
	} {
		same(t, "the solution for "+c.text, fine(t)(impl.SolveLinear(matrixOf(t, c.text), c.side)), c.x)
	}
}

// checkMatrix compares everything that there is for a matrix with its expanded
// determinant and with products.
func checkMatrix(t *testing.T, v *invention, a [][]int64) bool {
	t.Helper()
	side := int64(len(a))
	determinant := expanded(a)
	sameNumber(t, fmt.Sprint("the determinant of ", a), fineNumber(t)(impl.DeterminantOf(a)), determinant)
	b := v.numbers(side)
	x, code := impl.SolveLinear(a, b)
	rows, other := impl.InverseMatrix(a)
	if determinant == 0 {
		if code != impl.ErrZero || other != impl.ErrZero || len(x) > 0 || len(rows) > 0 {
			t.Errorf("%v: %v and %v with the codes %d and %d", a, x, rows, code, other)
		}
		return false
	}
	same(t, fmt.Sprint("the product of ", a, " and the solution"), rowsTimes(a, fine(t)(x, code)), b)
	same(t, fmt.Sprint("the product of the inverse of ", a, " and the right side"), rowsTimes(fineRows(t)(rows, other), b), x)
	same(t, fmt.Sprint("the only solution for ", a), fine(t)(impl.SolveLinear(a, rowsTimes(a, b))), b)
	for k := range a {
		one := unit(len(a)-1, k)
		same(t, fmt.Sprint("a column of the inverse of ", a), rowsTimes(a, column(rows, k)), one)
		same(t, fmt.Sprint("a row of the inverse of ", a), rowsTimes(rows, column(a, k)), one)
		same(t, fmt.Sprint("a solution for a unit vector of ", a), fine(t)(impl.SolveLinear(a, one)), column(rows, k))
	}
	return true
}

func TestP19ManyMatrices(t *testing.T) {
	counts := map[bool]int{}
	for seed := range int64(1000) {
		v := inventions(seed)
		a := v.square(seed % (impl.MaxSide + 1))
		counts[checkMatrix(t, v, a)]++
		b := v.square(seed % (impl.MaxSide + 1))
		var product [][]int64
		for _, row := range a {
			product = append(product, rowsTimes(transposed(b), row))
		}
		first, second := fineNumber(t)(impl.DeterminantOf(a)), fineNumber(t)(impl.DeterminantOf(b))
		sameNumber(t, "the determinant of a product", fineNumber(t)(impl.DeterminantOf(product)), impl.Times(first, second))
		sameNumber(t, "the determinant of the columns", fineNumber(t)(impl.DeterminantOf(transposed(a))), first)
	}
	if counts[true] < 300 || counts[false] < 100 {
		t.Errorf("so many matrices have an inverse: %v", counts)
	}
}

// transposed has the columns of a matrix as its rows.
func transposed(rows [][]int64) [][]int64 {
	var columns [][]int64
	for k := range rows {
		columns = append(columns, column(rows, k))
	}
	return columns
}

// TestP19AllSmallMatrices has each matrix of two rows of small numbers, and many of
// three rows.
func TestP19AllSmallMatrices(t *testing.T) {
	values := []int64{0, 1, 2, impl.P - 1}
	for code := range 256 {
		a := [][]int64{{values[code&3], values[code>>2&3]}, {values[code>>4&3], values[code>>6]}}
		checkMatrix(t, inventions(int64(code)), a)
	}
	for code := range 1 << 9 {
		a := [][]int64{{0, 0, 0}, {0, 0, 0}, {0, 0, 0}}
		for k := range 9 {
			a[k/3][k%3] = int64(code >> k & 1)
		}
		checkMatrix(t, inventions(int64(code)), a)
	}
}

// TestP19RowsThatChangeTheirPlaces has all orders of the rows of the unit matrix: its
// determinant is 1 or -1.
func TestP19RowsThatChangeTheirPlaces(t *testing.T) {
	for side := range impl.MaxSide + 1 {
		for seed := range int64(20) {
			v := inventions(seed)
			var a [][]int64
			inversions := 0
			order := v.Perm(side)
			for k, place := range order {
				a = append(a, unit(side-1, place))
				for _, before := range order[:k] {
					if before > place {
						inversions++
					}
				}
			}
			sameNumber(t, fmt.Sprint("the determinant of ", a), fineNumber(t)(impl.DeterminantOf(a)), impl.Residue(1-2*int64(inversions%2)))
			sameRows(t, fmt.Sprint("the inverse of ", a), fineRows(t)(impl.InverseMatrix(a)), transposed(a))
		}
	}
}

// beginningsOf are the coefficients of t^0 of a matrix of series.
func beginningsOf(a [][][]int64) [][]int64 {
	var rows [][]int64
	for _, row := range a {
		rows = append(rows, column(row, 0))
	}
	return rows
}

func TestP19ManySystemsOfSeries(t *testing.T) {
	counts := map[bool]int{}
	for seed := range int64(600) {
		v := inventions(seed)
		side, order := 1+seed%impl.MaxSide, v.Int63n(impl.MaxOrder+1)
		var a [][][]int64
		for _, row := range v.square(side) {
			list := v.series(side, order)
			for k, number := range row {
				list[k][0] = number
			}
			a = append(a, list)
		}
		b := v.series(side, order)
		x, code := impl.SolveSeries(a, b)
		fits := expanded(beginningsOf(a)) != 0
		counts[fits]++
		if !fits {
			if code != impl.ErrZero || len(x) > 0 {
				t.Errorf("%v: %v with the code %d", a, x, code)
			}
			continue
		}
		sameRows(t, fmt.Sprint("the product of ", a, " and the solution"), rowsOfSeriesTimes(t, a, fineRows(t)(x, code)), b)
		sameRows(t, fmt.Sprint("the only solution for ", a), fineRows(t)(impl.SolveSeries(a, rowsOfSeriesTimes(t, a, b))), b)
		same(t, "the coefficients of t^0", column(x, 0), fine(t)(impl.SolveLinear(beginningsOf(a), column(b, 0))))
		for length := int64(1); length <= order; length++ {
			var shorter [][][]int64
			for _, row := range a {
				shorter = append(shorter, beginnings(row, length))
			}
			sameRows(t, "a solution of a lower order", fineRows(t)(impl.SolveSeries(shorter, beginnings(b, length))), beginnings(x, length))
		}
	}
	if counts[true] < 200 || counts[false] < 100 {
		t.Errorf("so many systems have a solution: %v", counts)
	}
}

func TestP19SystemsOfSeriesByHand(t *testing.T) {
	one, zero, time := []int64{1, 0, 0}, []int64{0, 0, 0}, []int64{0, 1, 0}
	for _, c := range []struct {
		a    [][][]int64
		b, x [][]int64
		code int64
	}{
		{nil, nil, nil, impl.OK},
		{[][][]int64{}, [][]int64{}, nil, impl.OK},
		{[][][]int64{{{1, impl.P - 1, 0}}}, [][]int64{one}, [][]int64{{1, 1, 1}}, impl.OK},
		{[][][]int64{{{2}}}, [][]int64{{1}}, [][]int64{{500002}}, impl.OK},
		{[][][]int64{{time}}, [][]int64{time}, nil, impl.ErrZero},
		{[][][]int64{{time, one}, {one, time}}, [][]int64{one, zero}, [][]int64{{0, impl.P - 1, 0}, {1, 0, 1}}, impl.OK},
		{[][][]int64{{zero, one}, {one, zero}}, [][]int64{time, one}, [][]int64{one, time}, impl.OK},
		{[][][]int64{{time, zero}, {zero, one}}, [][]int64{zero, zero}, nil, impl.ErrZero},
		{[][][]int64{{one, one}, {one, {1, 1, 0}}}, [][]int64{zero, zero}, nil, impl.ErrZero},
		{[][][]int64{{one, {1, 1, 0}}, {one, {2, 0, 5}}}, [][]int64{zero, zero}, [][]int64{zero, zero}, impl.OK},
	} {
		x, code := impl.SolveSeries(c.a, c.b)
		sameNumber(t, fmt.Sprint("the code of ", c.a), code, c.code)
		sameRows(t, fmt.Sprint("the solution of ", c.a), x, c.x)
	}
}

// TestP19LargestSystemOfSeries has as many rows and coefficients as possible: a series
// times an order of the rows of the unit matrix.
func TestP19LargestSystemOfSeries(t *testing.T) {
	factor := constant(impl.MaxOrder, impl.P-1)
	zero := make([]int64, impl.MaxOrder+1)
	var a [][][]int64
	for k := range impl.MaxSide {
		row := slices.Repeat([][]int64{zero}, impl.MaxSide)
		row[(k+2)%impl.MaxSide] = factor
		a = append(a, row)
	}
	b := inventions(5).series(impl.MaxSide, impl.MaxOrder)
	x := fineRows(t)(impl.SolveSeries(a, b))
	for k := range impl.MaxSide {
		same(t, "a quotient", x[(k+2)%impl.MaxSide], fine(t)(impl.DivSeries(b[k], factor)))
	}
}

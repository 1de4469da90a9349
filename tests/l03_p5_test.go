package tests

import (
	"fmt"
	"slices"
	"strings"
	"testing"

	"loop.example/g01091/impl"
)

func TestP5Example(t *testing.T) {
	p, at := reading(t, exampleText), []int64{3, 2}
	same(t, "the gradient", fine(t)(impl.GradientOf(p, 1, 0, at)), []int64{6, 1})
	sameRows(t, "the Hessian", fineRows(t)(impl.HessianOf(p, 1, 1, at)), [][]int64{{0, 0}, {0, 48}})
	sameRows(t, "the Jacobian", fineRows(t)(impl.JacobianOf(p, 1, at)), [][]int64{{6, 1}, {0, 32}})
	same(t, "the square", fine(t)(impl.GradientOf(p, 0, 0, []int64{1000002})), []int64{1000001})
}

// TestP5DerivativesByHand differentiates one expression of each kind.
func TestP5DerivativesByHand(t *testing.T) {
	const before = "sq 1: (x0 * x0)\nrot 2: neg(x1) | x0\nmul 2: (x0 * x1) | x1\nnone 0: 7\n"
	for _, c := range []struct {
		text          string
		value         int64
		first, second int64
	}{
		{"9", 9, 0, 0}, {"x0", 20, 1, 0}, {"x1", 3, 0, 1},
		{"(x0 + x1)", 23, 1, 1}, {"(x0 - x1)", 17, 1, 1000002}, {"(x1 - x0)", 999986, 1000002, 1}, {"(x0 * x1)", 60, 3, 20}, {"(x1 * x1)", 9, 0, 6},
		{"(x0 / x1)", 333341, 666669, 555555}, {"(1 / x1)", 666669, 0, 777780}, {"(x0 / 5)", 4, 600002, 0}, {"(x0 / x0)", 1, 0, 0}, {"(0 / x1)", 0, 0, 0},
		{"neg(x1)", 1000000, 0, 1000002}, {"neg(neg(x0))", 20, 1, 0},
		{"if((x0 - 20); x0; x1)", 20, 1, 0}, {"if((x0 - 19); x0; x1)", 3, 0, 1}, {"if(0; (x0 * x0); (1 / 0))", 400, 40, 0}, {"if((x1 - x1); 5; x1)", 5, 0, 0},
		{"let((x0 * x1); (x2 * x2))", 3600, 360, 2400}, {"let(x1; (x2 + let(x0; (x3 * x2))))", 63, 3, 21}, {"let(x0; 5)", 5, 0, 0},
		{"sq.0(x0)", 400, 40, 0}, {"sq.0(sq.0(x1))", 81, 0, 108}, {"rot.0(x0; x1)", 1000000, 0, 1000002}, {"mul.0(x1; mul.1(x0; x1))", 9, 0, 6}, {"none.0()", 7, 0, 0},
		{"sq.0^0(x1)", 3, 0, 1}, {"sq.0^1(x1)", 9, 0, 6}, {"sq.0^3(x1)", 6561, 0, 17496}, {"mul.0^2(x0; x1)", 180, 9, 120}, {"rot.0^1(x0; x1)", 1000000, 0, 1000002}, {"rot.1^4(x0; x1)", 3, 0, 1},
	} {
		p := reading(t, before+"f 2: 1 | "+c.text+"\n")
		at := []int64{20, 3}
		values, slopes, code := impl.Directional(p, 4, at, []int64{1, 1000000})
		if code != impl.OK {
			t.Errorf("%s has the code %d", c.text, code)
		}
		same(t, c.text, values, []int64{1, c.value})
		same(t, c.text+" along a line", slopes, []int64{0, impl.Residue(c.first - 3*c.second)})
		same(t, c.text+" for x0", fine(t)(impl.Partial(p, 4, 0, at)), []int64{0, c.first})
		same(t, c.text+" for x1", fine(t)(impl.Partial(p, 4, 1, at)), []int64{0, c.second})
		same(t, c.text+" for both", fine(t)(impl.GradientOf(p, 4, 1, at)), []int64{c.first, c.second})
		sameRows(t, c.text+" and 1", fineRows(t)(impl.JacobianOf(p, 4, at)), [][]int64{{0, 0}, {c.first, c.second}})
	}
}

// TestP5ConditionsSelectOnly has conditions that are 0 at the arguments and have
// derivatives there, and such that are not 0 and have none.
func TestP5ConditionsSelectOnly(t *testing.T) {
	p := reading(t, "f 1: if(x0; (x0 * 5); (x0 * 7)) | if((x0 * x0); 1; x0) | if(if(x0; 1; 0); 3; (x0 + x0)) | if((3 * 5); x0; 2)\n")
	sameRows(t, "at 0", fineRows(t)(impl.JacobianOf(p, 0, []int64{0})), [][]int64{{5}, {0}, {2}, {0}})
	sameRows(t, "at 4", fineRows(t)(impl.JacobianOf(p, 0, []int64{4})), [][]int64{{7}, {1}, {0}, {0}})
	for _, order := range []int64{0, 1, 2, impl.MaxOrder} {
		var want [][]int64
		for _, first := range [][]int64{{0, 5}, {1, 0}, {0, 2}, {2, 0}} {
			want = append(want, append(first, make([]int64, impl.MaxOrder)...)[:order+1])
		}
		sameRows(t, fmt.Sprint("the order ", order), fineRows(t)(impl.TaylorOf(p, 0, []int64{0}, []int64{1}, order)), want)
	}
}

// TestP5DerivativesOfManyPrograms compares with the terms of degree 1 of
// polynomials.
func TestP5DerivativesOfManyPrograms(t *testing.T) {
	codes := map[int64]int{}
	for seed := range int64(500) {
		v := inventions(seed + 3000)
		p := v.program(1 + int(seed)%impl.MaxFuncs)
		for f := range int64(len(p.Funcs)) {
			params := p.Funcs[f].Params
			args, dir := v.numbers(params), v.numbers(params)
			outs, code := jetsAt(p, f, args, 1)
			codes[code]++
			if code != impl.OK {
				expectCodes(t, questionAt(p, f, args), code)
				continue
			}
			checkDerivatives(t, p, f, args, dir, outs)
		}
	}
	if codes[impl.OK] < 500 || codes[impl.ErrZero] < 300 || codes[impl.ErrBudget] < 10 {
		t.Errorf("the codes occur so often: %v", codes)
	}
}

// checkDerivatives compares all derivatives of order 1 with polynomials.
func checkDerivatives(t *testing.T, p impl.Program, f int64, args, dir []int64, outs []jet) {
	t.Helper()
	params := len(args)
	var values, slopes []int64
	var rows [][]int64
	for pick, out := range outs {
		row := make([]int64, params)
		for k := range row {
			row[k] = out.derivative(int64(k))
		}
		values, slopes, rows = append(values, out.derivative()), append(slopes, dot(row, dir)), append(rows, row)
		same(t, "GradientOf", fine(t)(impl.GradientOf(p, f, int64(pick), args)), row)
	}
	sameRows(t, "JacobianOf", fineRows(t)(impl.JacobianOf(p, f, args)), rows)
	for k := range params {
		same(t, "Partial", fine(t)(impl.Partial(p, f, int64(k), args)), column(rows, k))
	}
	have, along, code := impl.Directional(p, f, args, dir)
	if code != impl.OK {
		t.Errorf("Directional has the code %d", code)
	}
	same(t, "the values of Directional", have, values)
	same(t, "the slopes of Directional", along, slopes)
}

// differentiable makes a program and arguments for its last function, which has
// at least one param and values there.
func differentiable(seed int64) (*invention, impl.Program, []int64) {
	for v := inventions(seed); ; {
		p := v.program(1 + v.Intn(4))
		last := p.Funcs[len(p.Funcs)-1]
		args := v.numbers(last.Params)
		if _, _, ok := evaluated(p, int64(len(p.Funcs)-1), args); ok && last.Params > 0 {
			return v, p, args
		}
	}
}

// TestP5JacobianIsTheLinearMapOfTheDirectionalDerivatives checks sums and
// multiples of directions too.
func TestP5JacobianIsTheLinearMapOfTheDirectionalDerivatives(t *testing.T) {
	for seed := range int64(150) {
		v, p, args := differentiable(seed)
		f := int64(len(p.Funcs) - 1)
		params := p.Funcs[f].Params
		rows := fineRows(t)(impl.JacobianOf(p, f, args))
		along := func(dir []int64) []int64 {
			values, slopes, code := impl.Directional(p, f, args, dir)
			want, _, _ := evaluated(p, f, args)
			if code != impl.OK || !slices.Equal(values, want) {
				t.Errorf("the values %v with the code %d, want %v", values, code, want)
			}
			same(t, "the product of the Jacobian", slopes, rowsTimes(rows, dir))
			return slopes
		}
		first, second, factor := v.numbers(params), v.numbers(params), v.numbers(1)[0]
		same(t, "a sum of directions", along(moved(first, second, factor)), moved(along(first), along(second), factor))
		same(t, "no direction", along(make([]int64, params)), make([]int64, len(rows)))
		for k := range params {
			same(t, "a unit vector", along(unit(int(params)-1, int(k))), fine(t)(impl.Partial(p, f, k, args)))
		}
		for pick, row := range rows {
			same(t, "a row", fine(t)(impl.GradientOf(p, f, int64(pick), args)), row)
		}
	}
}

// TestP5ChainRule has functions of functions, whose Jacobians are products.
func TestP5ChainRule(t *testing.T) {
	done := 0
	for seed := range int64(600) {
		v := inventions(seed + 100)
		before := v.program(2).Funcs
		params, between, outs := 1+v.Int63n(3), 1+v.Int63n(3), 1+v.Intn(3)
		inner, outer, both := function("p", params), function("q", between), function("r", params)
		v.nodes = 120
		var vars, calls []impl.Expr
		for k := range params {
			vars = append(vars, variable(k))
		}
		for k := range between {
			inner.Outs = append(inner.Outs, v.expr(params, 4))
			calls = append(calls, calling(2, k, vars...))
		}
		for k := range outs {
			outer.Outs = append(outer.Outs, v.expr(between, 4))
			both.Outs = append(both.Outs, calling(3, int64(k), calls...))
		}
		p := program(append(slices.Clone(before), inner, outer, both)...)
		args := v.numbers(params)
		values, _, ok := evaluated(p, 2, args)
		if _, _, all := evaluated(p, 4, args); !ok || !all {
			continue
		}
		done++
		first, second := fineRows(t)(impl.JacobianOf(p, 2, args)), fineRows(t)(impl.JacobianOf(p, 3, values))
		product := make([][]int64, outs)
		for k, row := range second {
			for i := range int(params) {
				product[k] = append(product[k], dot(row, column(first, i)))
			}
		}
		sameRows(t, textOfProgram(p), fineRows(t)(impl.JacobianOf(p, 4, args)), product)
	}
	if done < 100 {
		t.Errorf("%d functions of functions", done)
	}
}

// TestP5LoopsAreFunctionsOfFunctions has the Jacobian of a loop, which is a
// product of those of its rounds.
func TestP5LoopsAreFunctionsOfFunctions(t *testing.T) {
	p := reading(t, "g 2: ((x0 * x1) + 3) | (x0 / (x1 + 5))\nf 2: g.0^0(x0; x1) | g.0^1(x0; x1) | g.1^2(x0; x1) | g.0^8(x0; x1)\n")
	at, rows := []int64{4, 9}, [][]int64{{1, 0}, {0, 1}}
	var products [][][]int64
	for range impl.MaxCount + 1 {
		products = append(products, rows)
		round := fineRows(t)(impl.JacobianOf(p, 0, at))
		next := make([][]int64, 2)
		for k, row := range round {
			next[k] = []int64{dot(row, column(rows, 0)), dot(row, column(rows, 1))}
		}
		rows = next
		at, _, _ = evaluated(p, 0, at)
	}
	want := [][]int64{products[0][0], products[1][0], products[2][1], products[8][0]}
	sameRows(t, "loops", fineRows(t)(impl.JacobianOf(p, 1, []int64{4, 9})), want)
}

func TestP5MostParams(t *testing.T) {
	sum, factors := "x0", "x0"
	for k := 1; k < impl.MaxParams; k++ {
		sum = fmt.Sprintf("(%s + (%d * x%d))", sum, k+1, k)
		factors = fmt.Sprintf("(%s * x%d)", factors, k)
	}
	p := reading(t, "f 12: "+sum+" | "+factors+strings.Repeat(" | x11", impl.MaxParams-2)+"\n")
	args, first, second := make([]int64, impl.MaxParams), make([]int64, impl.MaxParams), make([]int64, impl.MaxParams)
	for k := range args {
		args[k], first[k], second[k] = int64(k+1), int64(k+1), impl.Residue(479001600/int64(k+1))
	}
	rows := [][]int64{first, second}
	for len(rows) < impl.MaxParams {
		rows = append(rows, unit(impl.MaxParams-1, impl.MaxParams-1))
	}
	sameRows(t, "12 params", fineRows(t)(impl.JacobianOf(p, 0, args)), rows)
	hessian := fineRows(t)(impl.HessianOf(p, 0, 1, args))
	for i := range int64(impl.MaxParams) {
		same(t, "Partial", fine(t)(impl.Partial(p, 0, i, args)), column(rows, int(i)))
		for k := range int64(impl.MaxParams) {
			want := int64(0)
			if i != k {
				want = impl.Residue(479001600 / (i + 1) / (k + 1))
			}
			sameNumber(t, fmt.Sprint("the second derivative for ", i, " and ", k), hessian[i][k], want)
		}
	}
}

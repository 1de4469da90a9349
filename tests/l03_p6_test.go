package tests

import (
	"fmt"
	"testing"

	"loop.example/g01091/impl"
)

// TestP6HigherDerivativesOfManyPrograms compares with polynomials of degree 4.
func TestP6HigherDerivativesOfManyPrograms(t *testing.T) {
	done := 0
	for seed := range int64(130) {
		v := inventions(seed + 6000)
		p := v.program(1 + int(seed)%6)
		for f := range int64(len(p.Funcs)) {
			params := p.Funcs[f].Params
			args, dir := v.numbers(params), v.numbers(params)
			outs, code := jetsAt(p, f, args, 4)
			if code != impl.OK {
				continue
			}
			for pick, out := range outs {
				done++
				checkHessian(t, p, f, int64(pick), args, dir, out)
				checkTaylor(t, p, f, int64(pick), args, dir, out)
				for length := range 5 {
					var list []int64
					for range min(length, length*int(params)) {
						list = append(list, v.Int63n(params))
					}
					have := fineNumber(t)(impl.MixedDerivative(p, f, int64(pick), args, list))
					sameNumber(t, fmt.Sprint("the derivative for ", list), have, out.derivative(list...))
				}
			}
		}
	}
	if done < 300 {
		t.Errorf("%d outputs", done)
	}
}

func checkHessian(t *testing.T, p impl.Program, f, pick int64, args, dir []int64, out jet) {
	t.Helper()
	var rows [][]int64
	for i := range args {
		var row []int64
		for k := range args {
			row = append(row, out.derivative(int64(i), int64(k)))
		}
		rows = append(rows, row)
	}
	sameRows(t, "HessianOf", fineRows(t)(impl.HessianOf(p, f, pick, args)), rows)
	same(t, "HessianTimes", fine(t)(impl.HessianTimes(p, f, pick, args, dir)), rowsTimes(rows, dir))
}

func checkTaylor(t *testing.T, p impl.Program, f, pick int64, args, dir []int64, out jet) {
	t.Helper()
	factorial := int64(1)
	for order := range int64(5) {
		factorial *= max(1, order)
		want := out.along(dir, order)
		same(t, "TaylorOf", fineRows(t)(impl.TaylorOf(p, f, args, dir, order))[pick], want)
		number := fineNumber(t)(impl.HigherDerivative(p, f, pick, args, dir, order))
		sameNumber(t, "HigherDerivative", number, impl.Times(factorial, want[order]))
	}
}

// TestP6SecondDerivativesByHand has squares, products, quotients and conditions.
func TestP6SecondDerivativesByHand(t *testing.T) {
	p := reading(t, "f 3: ((x0 * x0) * (x1 * x2)) | (x0 / x1) | if((x0 - 2); (5 * (x2 * x2)); x0) | x1 | (x1 * x1)\n")
	at, inverse := []int64{2, 3, 4}, func(n int64) int64 { x, _ := impl.Inverse(n); return x }
	for pick, want := range [][][]int64{
		{{24, 16, 12}, {16, 0, 4}, {12, 4, 0}},
		{{0, inverse(-9), 0}, {inverse(-9), impl.Times(4, inverse(27)), 0}, {0, 0, 0}},
		{{0, 0, 0}, {0, 0, 0}, {0, 0, 10}},
		{{0, 0, 0}, {0, 0, 0}, {0, 0, 0}},
		{{0, 0, 0}, {0, 2, 0}, {0, 0, 0}},
	} {
		sameRows(t, fmt.Sprint("the output ", pick), fineRows(t)(impl.HessianOf(p, 0, int64(pick), at)), want)
		for _, dir := range [][]int64{{0, 0, 0}, {1, 0, 0}, {0, 0, 1}, {5, 7, impl.P - 1}} {
			same(t, fmt.Sprint("the output ", pick), fine(t)(impl.HessianTimes(p, 0, int64(pick), at, dir)), rowsTimes(want, dir))
		}
	}
	for _, c := range []struct {
		list []int64
		want int64
	}{
		{nil, 48}, {[]int64{}, 48}, {[]int64{0}, 48}, {[]int64{1}, 16}, {[]int64{2, 1}, 4}, {[]int64{0, 0}, 24}, {[]int64{1, 1}, 0},
		{[]int64{0, 1, 2}, 4}, {[]int64{0, 0, 1}, 8}, {[]int64{0, 0, 0}, 0}, {[]int64{0, 0, 1, 2}, 2}, {[]int64{2, 0, 1, 0}, 2}, {[]int64{0, 1, 2, 1}, 0}, {[]int64{2, 2, 2, 2}, 0},
	} {
		sameNumber(t, fmt.Sprint(c.list), fineNumber(t)(impl.MixedDerivative(p, 0, 0, at, c.list)), c.want)
	}
}

// TestP6SecondDerivativesAreSymmetric also compares them with the other ways to
// second derivatives, and with the Jacobian of a polynomial beside its points.
func TestP6SecondDerivativesAreSymmetric(t *testing.T) {
	for seed := range int64(120) {
		v, p, args := differentiable(seed + 500)
		f := int64(len(p.Funcs) - 1)
		params, pick := p.Funcs[f].Params, int64(v.Intn(len(p.Funcs[f].Outs)))
		rows := fineRows(t)(impl.HessianOf(p, f, pick, args))
		first, second := v.numbers(params), v.numbers(params)
		times := fine(t)(impl.HessianTimes(p, f, pick, args, first))
		sameNumber(t, "symmetry along directions", dot(second, times), dot(first, fine(t)(impl.HessianTimes(p, f, pick, args, second))))
		sameNumber(t, "the derivative of order 2", fineNumber(t)(impl.HigherDerivative(p, f, pick, args, first, 2)), dot(first, times))
		for i := range params {
			same(t, "the product with a unit vector", fine(t)(impl.HessianTimes(p, f, pick, args, unit(int(params)-1, int(i)))), rows[i])
			for k := range params {
				sameNumber(t, "symmetry", rows[i][k], rows[k][i])
				sameNumber(t, "the mixed derivative", fineNumber(t)(impl.MixedDerivative(p, f, pick, args, []int64{i, k})), rows[i][k])
			}
			slopes := fine(t)(impl.Partial(p, f, i, args))
			sameNumber(t, "the mixed derivative for one", fineNumber(t)(impl.MixedDerivative(p, f, pick, args, []int64{i})), slopes[pick])
		}
		list := []int64{v.Int63n(params), v.Int63n(params), v.Int63n(params), v.Int63n(params)}
		want := fineNumber(t)(impl.MixedDerivative(p, f, pick, args, list))
		for range 5 {
			v.Shuffle(4, func(i, k int) { list[i], list[k] = list[k], list[i] })
			sameNumber(t, fmt.Sprint("symmetry for ", list), fineNumber(t)(impl.MixedDerivative(p, f, pick, args, list)), want)
		}
	}
}

// TestP6PolynomialsInterpolateTheirValues has polynomials of at most the degree
// MaxOrder, whose values lie on their Taylor series.
func TestP6PolynomialsInterpolateTheirValues(t *testing.T) {
	done := 0
	for seed := range int64(120) {
		v := inventions(seed)
		params := 1 + v.Int63n(5)
		e := v.polynomial(params, impl.MaxOrder, 5)
		p := program(function("f", params, num(1), e))
		if !impl.ValidProgram(p) {
			continue
		}
		done++
		args, dir := v.numbers(params), v.numbers(params)
		at := func(time int64) int64 {
			values, _, _ := evaluated(p, 0, moved(args, dir, time))
			return values[1]
		}
		taylor := fineRows(t)(impl.TaylorOf(p, 0, args, dir, impl.MaxOrder))[1]
		var values []int64
		for k := range int64(impl.MaxOrder + 1) {
			values = append(values, at(k))
		}
		same(t, "the interpolation", fine(t)(impl.Interpolate(values)), taylor)
		slopes := fine(t)(impl.DerivativeOf(taylor))
		for _, k := range []int64{13, 500000, impl.P - 1} {
			sameNumber(t, "a value", fineNumber(t)(impl.ValueAt(taylor, k)), at(k))
		}
		for k, slope := range fine(t)(impl.SlopeAlong(p, 0, 1, args, dir, impl.MaxOrder)) {
			sameNumber(t, "a slope", slope, fineNumber(t)(impl.ValueAt(slopes, int64(k))))
		}
	}
	if done < 100 {
		t.Errorf("%d polynomials", done)
	}
}

// TestP6GeometricSeries has Taylor coefficients of all orders by hand.
func TestP6GeometricSeries(t *testing.T) {
	p := reading(t, "f 1: (1 / (1 - x0)) | (x0 * x0) | 5\n")
	factorial := int64(1)
	for order := range int64(impl.MaxOrder + 1) {
		factorial *= max(1, order)
		ones := constant(int(order), 1)
		square := make([]int64, order+1)
		if order >= 2 {
			square[2] = 1
		}
		five := append([]int64{5}, make([]int64, order)...)
		sameRows(t, fmt.Sprint("the order ", order), fineRows(t)(impl.TaylorOf(p, 0, []int64{0}, []int64{1}, order)), [][]int64{ones, square, five})
		sameNumber(t, fmt.Sprint("the order ", order), fineNumber(t)(impl.HigherDerivative(p, 0, 0, []int64{0}, []int64{1}, order)), impl.Residue(factorial))
		sameRows(t, "along nothing", fineRows(t)(impl.TaylorOf(p, 0, []int64{3}, []int64{0}, order)), [][]int64{append([]int64{500001}, make([]int64, order)...), append([]int64{9}, make([]int64, order)...), five})
	}
	sameNumber(t, "the order 12", fineNumber(t)(impl.HigherDerivative(p, 0, 0, []int64{0}, []int64{1}, 12)), impl.Residue(479001600))
}

// TestP6SeriesByHand evaluates one expression of each kind with series.
func TestP6SeriesByHand(t *testing.T) {
	const before = "sq 1: (x0 * x0)\nrot 2: neg(x1) | x0\n"
	for text, want := range map[string][]int64{
		"9": {9, 0, 0}, "x0": {1, 1, 0}, "x1": {0, 2, 3},
		"(x0 + x1)": {1, 3, 3}, "(x0 - x1)": {1, 1000002, 1000000}, "(x0 * x1)": {0, 2, 5}, "(x1 / x0)": {0, 2, 1}, "(1 / x0)": {1, 1000002, 1}, "(0 / x0)": {0, 0, 0},
		"neg(x1)": {0, 1000001, 1000000}, "neg(0)": {0, 0, 0}, "if(x1; 4; x0)": {4, 0, 0}, "if(x0; 4; x1)": {0, 2, 3}, "if((x0 - 1); x0; x1)": {1, 1, 0}, "if((x1 * x1); x0; x1)": {1, 1, 0},
		"let((x0 * x0); (x2 * x1))": {0, 2, 7}, "sq.0(x0)": {1, 2, 1}, "sq.0^2(x0)": {1, 4, 6}, "sq.0^0(x1)": {0, 2, 3}, "rot.0(x0; x1)": {0, 1000001, 1000000}, "rot.1^2(x0; x1)": {0, 1000001, 1000000},
	} {
		p := reading(t, before+"f 2: "+text+" | x0\n")
		path := [][]int64{{1, 1, 0}, {0, 2, 3}}
		for order := range int64(3) {
			have := fineRows(t)(impl.EvaluateSeries(p, 2, beginnings(path, order+1)))
			sameRows(t, fmt.Sprint(text, " of the order ", order), have, [][]int64{want[:order+1], path[0][:order+1]})
			slope := make([]int64, order+1)
			for k := range order {
				slope[k] = impl.Times(k+1, want[k+1])
			}
			same(t, text, fine(t)(impl.PathDerivative(p, 2, 0, beginnings(path, order+1))), slope)
		}
	}
}

// TestP6SeriesOfManyPrograms compares with polynomials of one variable.
func TestP6SeriesOfManyPrograms(t *testing.T) {
	codes := map[int64]int{}
	for seed := range int64(300) {
		v := inventions(seed + 9000)
		p := v.program(1 + int(seed)%6)
		order := seed % (impl.MaxOrder + 1)
		for f := range int64(len(p.Funcs)) {
			params := p.Funcs[f].Params
			path := v.series(params, order)
			length := order + 1
			if params == 0 {
				length = 1
			}
			var list []jet
			for _, arg := range path {
				list = append(list, jetOf(arg))
			}
			outs, code := jetsOf(p, f, list, length-1)
			codes[code]++
			if code != impl.OK {
				expectCode(t, forwardFunctions()[0], question{p: p, f: f, path: path}, code)
				continue
			}
			var want [][]int64
			for pick, out := range outs {
				want = append(want, out.seriesOf(length-1))
				same(t, "PathDerivative", fine(t)(impl.PathDerivative(p, f, int64(pick), path)), fine(t)(impl.DerivativeOf(want[pick])))
			}
			sameRows(t, "EvaluateSeries", fineRows(t)(impl.EvaluateSeries(p, f, path)), want)
		}
	}
	if codes[impl.OK] < 300 || codes[impl.ErrZero] < 100 {
		t.Errorf("the codes occur so often: %v", codes)
	}
}

// TestP6TaylorSeriesDoNotDependOnHowAPathIsTravelled goes along a path by another
// measure of time.
func TestP6TaylorSeriesDoNotDependOnHowAPathIsTravelled(t *testing.T) {
	for seed := range int64(150) {
		v, p, args := differentiable(seed + 900)
		f, order := int64(len(p.Funcs)-1), 1+seed%impl.MaxOrder
		params := p.Funcs[f].Params
		path, time := v.series(params, order), beginning(v.numbers(order+1), 0)
		var other [][]int64
		for k := range path {
			path[k][0] = args[k]
			other = append(other, fine(t)(impl.ComposeSeries(path[k], time)))
		}
		outs, later := fineRows(t)(impl.EvaluateSeries(p, f, path)), fineRows(t)(impl.EvaluateSeries(p, f, other))
		short := fineRows(t)(impl.EvaluateSeries(p, f, beginnings(path, order)))
		values, _, _ := evaluated(p, f, args)
		for pick, out := range outs {
			same(t, "another time", later[pick], fine(t)(impl.ComposeSeries(out, time)))
			same(t, "a lower order", short[pick], out[:order])
			sameNumber(t, "the value", out[0], values[pick])
			same(t, "the chain rule", fine(t)(impl.PathDerivative(p, f, int64(pick), path))[:1], []int64{dot(column(path, 1), fine(t)(impl.GradientOf(p, f, int64(pick), args)))})
		}
		checkLines(t, v, p, f, args, time)
	}
}

// checkLines goes along a line slower, and by another measure of time.
func checkLines(t *testing.T, v *invention, p impl.Program, f int64, args, time []int64) {
	t.Helper()
	order, factor, dir := int64(len(time))-1, v.numbers(1)[0], v.numbers(int64(len(args)))
	taylor := fineRows(t)(impl.TaylorOf(p, f, args, dir, order))
	slow := fineRows(t)(impl.TaylorOf(p, f, args, moved(make([]int64, len(dir)), dir, factor), order))
	var line, straight [][]int64
	for k, arg := range args {
		line = append(line, moved(append([]int64{arg}, make([]int64, order)...), time, dir[k]))
		straight = append(straight, append([]int64{arg, dir[k]}, make([]int64, order)...)[:order+1])
	}
	outs := fineRows(t)(impl.EvaluateSeries(p, f, line))
	sameRows(t, "the line as a path", fineRows(t)(impl.EvaluateSeries(p, f, straight)), taylor)
	for pick, out := range taylor {
		same(t, "another time on a line", outs[pick], fine(t)(impl.ComposeSeries(out, time)))
		for k := range out {
			sameNumber(t, "a slower line", slow[pick][k], impl.Times(impl.Power(factor, int64(k)), out[k]))
		}
	}
	values, slopes, code := impl.Directional(p, f, args, dir)
	if code != impl.OK {
		t.Errorf("Directional has the code %d", code)
	}
	same(t, "the values", values, column(taylor, 0))
	same(t, "the slopes", slopes, column(taylor, 1))
}

// TestP6SlopeAlong goes from point to point, and ends at the first error.
func TestP6SlopeAlong(t *testing.T) {
	p := reading(t, "f 2: 1 | (x0 * (x0 * x1))\n")
	at, dir := []int64{5, 1000001}, []int64{1000002, 2}
	slopes := fine(t)(impl.SlopeAlong(p, 0, 1, at, dir, impl.MaxOrder))
	for k := range int64(impl.MaxOrder) {
		x, y := 5-k, 2*k-2
		sameNumber(t, fmt.Sprint("the point ", k), slopes[k], impl.Residue(2*x*x-2*x*y))
	}
	for count := range int64(impl.MaxOrder + 1) {
		same(t, "fewer points", fine(t)(impl.SlopeAlong(p, 0, 1, at, dir, count)), slopes[:min(count, int64(len(slopes)))])
		same(t, "one point", fine(t)(impl.SlopeAlong(p, 0, 0, at, dir, count)), make([]int64, count))
		same(t, "no direction", fine(t)(impl.SlopeAlong(p, 0, 1, at, []int64{0, 0}, count)), make([]int64, count))
	}
}

// long is a program whose function f needs too many steps for the argument many,
// divides by 0 for the argument zero, and returns the square of all others.
func long(t *testing.T, many, zero string) impl.Program {
	body := textOf(impl.Program{}, flat(398))
	return reading(t, "h 1: "+body+"\nf 1: if((x0 - "+many+"); h.0^8(0); if((x0 - "+zero+"); (1 / 0); (x0 * x0)))\n")
}

func TestP6SlopeAlongErrors(t *testing.T) {
	for _, c := range []struct {
		many, zero string
		count      int64
		want       int64
	}{
		{"10", "10", 0, impl.OK}, {"10", "10", 1, impl.ErrBudget}, {"11", "10", 0, impl.OK}, {"11", "10", 1, impl.ErrZero}, {"10", "11", 2, impl.ErrBudget}, {"11", "10", 2, impl.ErrZero},
		{"12", "13", 2, impl.OK}, {"12", "13", 3, impl.ErrBudget}, {"12", "13", 4, impl.ErrBudget}, {"13", "12", 2, impl.OK}, {"13", "12", 3, impl.ErrZero}, {"13", "12", 12, impl.ErrZero},
		{"22", "21", 11, impl.OK}, {"22", "21", 12, impl.ErrZero}, {"21", "22", 12, impl.ErrBudget}, {"22", "22", 12, impl.OK},
	} {
		p := long(t, c.many, c.zero)
		have, code := impl.SlopeAlong(p, 1, 0, []int64{10}, []int64{1}, c.count)
		if c.want != impl.OK {
			refused(t, fmt.Sprint(c), have, code, c.want)
			continue
		}
		var want []int64
		for k := range c.count {
			want = append(want, 20+2*k)
		}
		same(t, fmt.Sprint(c), fine(t)(have, code), want)
	}
}

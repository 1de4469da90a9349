package tests

import (
	"fmt"
	"slices"
	"strings"
	"testing"

	"loop.example/g01091/impl"
)

func TestP23Example(t *testing.T) {
	p := reading(t, "rot 2: x1 | neg(x0)\nseen 2: (x0 * x0)\n")
	q := polyWith(2, term(1, 0, 2), term(1, 2, 0))
	if text := impl.PolyText(q); text != "1*x1^2 + 1*x0^2" || !fineBool(t)(impl.IsConserved(p, 0, q)) {
		t.Errorf("%s is not conserved", text)
	}
	same(t, "the observable", fine(t)(impl.ObservableAlong(p, 0, []int64{1, 0}, 1, 0, 2)), []int64{1, 0, impl.P - 1})
}

// polyOfText is the polynomial of an expression with so many variables.
func polyOfText(t *testing.T, text string, vars int64) impl.Poly {
	t.Helper()
	p := withOut(impl.Program{}, expression(t, impl.Program{}, text, vars), vars)
	return finePoly(t)(impl.PolyOf(p, 0, 0))
}

func TestP23LieDerivativesByHand(t *testing.T) {
	for _, c := range []struct{ field, q, want string }{
		{"f 1: x0", "5", "0"}, {"f 1: x0", "x0", "x0"}, {"f 1: x0", "(x0 * x0)", "(2 * (x0 * x0))"}, {"f 1: 0", "(x0 * x0)", "0"}, {"f 1: 3", "(x0 * (x0 * x0))", "(9 * (x0 * x0))"}, {"f 1: (x0 * x0)", "(1 + x0)", "(x0 * x0)"},
		{"f 2: x1 | neg(x0)", "x0", "x1"}, {"f 2: x1 | neg(x0)", "x1", "neg(x0)"}, {"f 2: x1 | neg(x0)", "(x0 * x1)", "((x1 * x1) - (x0 * x0))"}, {"f 2: x1 | neg(x0)", "((x0 * x0) + (x1 * x1))", "0"}, {"f 2: x1 | neg(x0)", "0", "0"},
		{"f 2: x1 | x0", "((x0 * x0) - (x1 * x1))", "0"}, {"f 2: x1 | x0", "((x0 * x0) + (x1 * x1))", "(4 * (x0 * x1))"}, {"f 2: (x0 * x1) | 1", "(x0 + x1)", "(1 + (x0 * x1))"}, {"f 2: (x0 / 2) | (x1 / neg(2))", "(x0 * x1)", "0"},
		{"f 3: (x1 * x2) | ((0 - 2) * (x0 * x2)) | (x0 * x1)", "((x0 * x0) + ((x1 * x1) + (x2 * x2)))", "0"}, {"f 3: (x1 * x2) | ((0 - 2) * (x0 * x2)) | (x0 * x1)", "(x0 * (x1 * x2))", "(((x1 * x1) * (x2 * x2)) + (((0 - 2) * ((x0 * x0) * (x2 * x2))) + ((x0 * x0) * (x1 * x1))))"},
		{"f 3: if(0; x1; x0) | let(x2; x3) | 7", "(x0 + (x1 + x2))", "(x1 + (x2 + 7))"},
	} {
		p := reading(t, c.field+"\n")
		vars := p.Funcs[0].Params
		q, want := polyOfText(t, c.q, vars), polyOfText(t, c.want, vars)
		samePolys(t, c.q+" along "+c.field, finePoly(t)(impl.LiePoly(p, 0, q)), want)
		if yes := fineBool(t)(impl.IsConserved(p, 0, q)); yes != (c.want == "0") {
			t.Errorf("%s along %s is conserved: %v", c.q, c.field, yes)
		}
	}
}

// derivedSlowly is the derivative of a polynomial for a variable.
func derivedSlowly(a impl.Poly, variable int64) impl.Poly {
	var terms []impl.Term
	for _, term := range a.Terms {
		if exp := term.Exps[variable]; exp > 0 {
			exps := slices.Clone(term.Exps)
			exps[variable]--
			terms = append(terms, impl.Term{Exps: exps, Coef: exp * term.Coef})
		}
	}
	return collected(a.Vars, terms)
}

// lieSlowly is the Lie derivative, and OK, by polynomials that have lists of terms.
func lieSlowly(p impl.Program, f int64, q impl.Poly) (impl.Poly, int64) {
	outs, code := polysOf(p, f)
	sum := polyWith(q.Vars)
	for k, out := range outs {
		product := timesSlowly(out, derivedSlowly(q, int64(k)))
		sum = plusSlowly(sum, 1, product)
		if !fitsLimits(product) || !fitsLimits(sum) {
			return impl.Poly{}, impl.ErrLimit
		}
	}
	if code != impl.OK {
		return impl.Poly{}, code
	}
	return sum, impl.OK
}

func TestP23ManyLieDerivatives(t *testing.T) {
	codes, conserved := map[int64]int{}, 0
	for seed := range int64(600) {
		v := inventions(seed)
		p, f := v.round(seed%4 == 0)
		params := p.Funcs[f].Params
		q := v.poly(params, []int64{2, 4, impl.MaxDegree}[seed%3], []int{3, 8, 60}[v.Intn(3)])
		lie, code := impl.LiePoly(p, f, q)
		want, slow := lieSlowly(p, f, q)
		sameNumber(t, "the code of a Lie derivative", code, slow)
		samePolys(t, "the Lie derivative", lie, want)
		yes, other := impl.IsConserved(p, f, q)
		sameNumber(t, "the code of IsConserved", other, slow)
		if yes != (slow == impl.OK && len(want.Terms) == 0) {
			t.Errorf("%s is conserved: %v", polyText(q), yes)
		}
		codes[code]++
		if code == impl.OK {
			conserved += checkAlong(t, v, p, f, q)
			checkDerivation(t, v, p, f, q, lie)
		}
	}
	if codes[impl.OK] < 200 || codes[impl.ErrLimit] < 30 || codes[impl.ErrState] < 20 || codes[impl.ErrZero] < 5 || conserved < 20 {
		t.Errorf("so many Lie derivatives have the codes %v, and %d polynomials are conserved", codes, conserved)
	}
}

// checkAlong compares a polynomial along the flow with its Lie derivatives at the start,
// divided by factorials, and counts 1 if it is conserved.
func checkAlong(t *testing.T, v *invention, p impl.Program, f int64, q impl.Poly) int {
	t.Helper()
	params, order := p.Funcs[f].Params, v.Int63n(impl.MaxOrder+1)
	e, code := impl.PolyExpr(q)
	start := v.numbers(params)
	if code != impl.OK {
		return 0
	}
	observed := fine(t)(impl.ObservableAlong(withOut(p, e, params), f, start, int64(len(p.Funcs)), 0, order))
	lie, values := q, []int64{}
	for range order + 1 {
		values = append(values, fineNumber(t)(impl.PolyValue(lie, start)))
		if lie, code = impl.LiePoly(p, f, lie); code != impl.OK {
			break
		}
	}
	same(t, fmt.Sprint(brief(polyText(q)), " along ", brief(textOfProgram(p))), observed[:len(values)], quotientsOf(t, values...))
	if !fineBool(t)(impl.IsConserved(p, f, q)) {
		return 0
	}
	same(t, brief(polyText(q))+", which is conserved", observed, constants([]int64{observed[0]}, order)[0])
	return 1
}

// checkDerivation has sums, multiples and products of polynomials.
func checkDerivation(t *testing.T, v *invention, p impl.Program, f int64, q, lie impl.Poly) {
	t.Helper()
	other, times := v.poly(q.Vars, 3, 4), v.numbers(1)[0]
	otherLie, code := impl.LiePoly(p, f, other)
	if code != impl.OK {
		return
	}
	if sum := plusSlowly(q, times, other); fitsLimits(sum) {
		if both, code := impl.LiePoly(p, f, sum); code == impl.OK {
			samePolys(t, "the Lie derivative of a sum", both, plusSlowly(lie, times, otherLie))
		}
	}
	if product := timesSlowly(q, other); fitsLimits(product) {
		if both, code := impl.LiePoly(p, f, product); code == impl.OK {
			samePolys(t, "the Lie derivative of a product", both, plusSlowly(timesSlowly(lie, other), 1, timesSlowly(q, otherLie)))
		}
	}
}

// TestP23FieldsThatConserve has fields that are made of a polynomial, so that they
// conserve it, and polynomials that they do not conserve.
func TestP23FieldsThatConserve(t *testing.T) {
	counts := map[bool]int{}
	for seed := range int64(150) {
		v := inventions(seed)
		q := v.poly(2, 1+v.Int63n(5), 6)
		first := fineExpr(t)(impl.PolyExpr(finePoly(t)(impl.DerivePoly(q, 1))))
		second := fineExpr(t)(impl.PolyExpr(finePoly(t)(impl.DerivePoly(q, 0))))
		p := program(function("f", 2, first, tree(impl.KNeg, second)))
		if !fineBool(t)(impl.IsConserved(p, 0, q)) || checkAlong(t, v, p, 0, q) != 1 {
			t.Errorf("%s is not conserved", polyText(q))
		}
		other := plusSlowly(q, 1, v.poly(2, 3, 3))
		lie := finePoly(t)(impl.LiePoly(p, 0, other))
		yes := fineBool(t)(impl.IsConserved(p, 0, other))
		counts[yes]++
		if yes != (len(lie.Terms) == 0) {
			t.Errorf("%s is conserved: %v", polyText(other), yes)
		}
		checkAlong(t, v, p, 0, other)
	}
	if counts[false] < 50 || counts[true] < 10 {
		t.Errorf("so many polynomials are conserved: %v", counts)
	}
}

// TestP23LimitsOnTheWay has products and sums that just fit and that just do not, also
// where the whole sum does.
func TestP23LimitsOnTheWay(t *testing.T) {
	// The product of (1 + x + ... + x^4), of the same for y and of that up to z^3 has
	// 100 terms of a degree up to 11; there are 20 further ones in twenty.
	text := "sum 1: (1 + (x0 * (1 + (x0 * (1 + (x0 * (1 + x0)))))))\nless 1: (1 + (x0 * (1 + (x0 * (1 + x0)))))\n"
	text += "all 3: ((sum.0(x0) * sum.0(x1)) * less.0(x2))\nfour 1: (x0 * (x0 * (x0 * x0)))\ntwenty 3: (((four.0(x0) * x0) * less.0(x0)) * sum.0(x1))\n"
	all, twenty, more := "all.0(x0; x1; x2)", "twenty.0(x0; x1; x2)", "four.0(x2)"
	for _, c := range []struct {
		field, q string
		want     int64
	}{
		{all + " | " + twenty + " | 0", "(x0 + (x1 + x2))", impl.OK},
		{all + " | (" + twenty + " + " + more + ") | 0", "(x0 + (x1 + x2))", impl.ErrLimit},
		{all + " | (" + twenty + " + " + more + ") | neg(" + all + ")", "(x0 + (x1 + x2))", impl.ErrLimit},
		{all + " | (" + twenty + " + " + more + ") | neg(" + more + ")", "(x0 + (x1 + x2))", impl.ErrLimit},
		{all + " | (" + twenty + " + " + more + ") | neg(" + more + ")", "(x0 + (0 - (x1 + x2)))", impl.ErrLimit},
		{all + " | neg(" + all + ") | (" + twenty + " + " + more + ")", "(x0 + (x1 + x2))", impl.OK},
		{"(" + twenty + " + " + more + ") | neg(" + more + ") | " + all, "(x0 + (x1 + x2))", impl.OK},
		{all + " | (" + twenty + " + " + more + ") | 0", "(x0 + x2)", impl.OK},
		{all + " | " + more + " | " + twenty, "(x1 + x2)", impl.OK},
		{all + " | 0 | 0", "((x0 * x0) + x1)", impl.OK},
		{all + " | 0 | 0", "((x0 * x0) + (x0 * x1))", impl.ErrLimit},
		{all + " | 0 | 0", "(x0 * (x0 * x0))", impl.ErrLimit},
		{all + " | 0 | 0", "(x1 * (x1 * x1))", impl.OK},
		{"four.0(x0) | four.0(x1) | four.0(x2)", "(four.0(x0) * (four.0(x0) * x0))", impl.OK},
		{"four.0(x0) | four.0(x1) | four.0(x2)", "(four.0(x0) * (four.0(x0) * (x0 * x0)))", impl.ErrLimit},
		{"x0 | (four.0(x1) - four.0(x1)) | (four.0(x2) - four.0(x2))", "(four.0(x1) * (four.0(x2) * four.0(x2)))", impl.OK},
		{"(x0 * x0) | neg((x0 * x1)) | 0", "(four.0(x0) * (four.0(x1) * four.0(x1)))", impl.ErrLimit},
	} {
		p := reading(t, text+"f 3: "+c.field+"\n")
		q := finePoly(t)(impl.PolyOf(withOut(p, expression(t, p, c.q, 3), 3), int64(len(p.Funcs)), 0))
		f := int64(len(p.Funcs) - 1)
		lie, code := impl.LiePoly(p, f, q)
		yes, other := impl.IsConserved(p, f, q)
		want, slow := lieSlowly(p, f, q)
		sameNumber(t, c.q+" along "+c.field, code, c.want)
		sameNumber(t, "the code by another way", slow, c.want)
		sameNumber(t, "the code of IsConserved", other, c.want)
		samePolys(t, c.q+" along "+c.field, lie, want)
		if yes != (code == impl.OK && len(want.Terms) == 0) {
			t.Errorf("%s along %s is conserved: %v", c.q, c.field, yes)
		}
	}
}

// TestP23ProductsOnTheWay has a product of 200 terms, of which those that come before
// would leave 100.
func TestP23ProductsOnTheWay(t *testing.T) {
	text := "sum 1: (1 + (x0 * (1 + (x0 * (1 + (x0 * (1 + x0)))))))\nless 1: (1 + (x0 * (1 + (x0 * (1 + x0)))))\nall 3: ((sum.0(x0) * sum.0(x1)) * less.0(x2))\n"
	p := reading(t, text+"f 4: neg(all.0(x0; x1; x2)) | all.0(x0; x1; x2) | 0 | 0\n")
	for q, want := range map[string]int64{"(x0 + (x1 + (x1 * x3)))": impl.ErrLimit, "(x0 + x1)": impl.OK, "(x0 * x3)": impl.OK, "(x1 * x3)": impl.OK, "(x1 + (x1 * x3))": impl.ErrLimit} {
		for _, f := range lieFunctions()[:2] {
			expectSolver(t, f, solverQuestion{p: p, smooth: 3, q: polyOfText(t, q, 4)}, want)
		}
	}
}

// TestP23MostVariables has rotations of as many variables as possible.
func TestP23MostVariables(t *testing.T) {
	var outs []string
	sum := "0"
	for k := 0; k < impl.MaxParams; k += 2 {
		outs = append(outs, fmt.Sprintf("(%d * x%d)", k+1, k+1), fmt.Sprintf("neg((%d * x%d))", k+1, k))
		sum = fmt.Sprintf("(%s + ((x%d * x%d) + (x%d * x%d)))", sum, k, k, k+1, k+1)
	}
	p := reading(t, "f 12: "+strings.Join(outs, " | ")+"\nseen 12: "+sum+" | (x11 * x11)\n")
	q := polyOfText(t, sum, 12)
	if !fineBool(t)(impl.IsConserved(p, 0, q)) {
		t.Errorf("%s is not conserved", sum)
	}
	start := inventions(1).numbers(12)
	same(t, "the sum of squares", fine(t)(impl.ObservableAlong(p, 0, start, 1, 0, impl.MaxOrder)), constants([]int64{dot(start, start)}, impl.MaxOrder)[0])
	y := fineRows(t)(impl.FlowOf(p, 0, start, impl.MaxOrder))
	same(t, "a square", fine(t)(impl.ObservableAlong(p, 0, start, 1, 1, impl.MaxOrder)), fine(t)(impl.MulSeries(y[11], y[11])))
	if fineBool(t)(impl.IsConserved(p, 0, polyOfText(t, "(x11 * x11)", 12))) {
		t.Error("a square is conserved")
	}
}

// TestP23ManyObservables has functions of any kind along flows, the field itself among
// them, which sees the derivative of the flow.
func TestP23ManyObservables(t *testing.T) {
	count := 0
	for seed := range int64(300) {
		v := inventions(seed)
		p, f := v.round(seed%2 == 0)
		params, order := p.Funcs[f].Params, v.Int63n(impl.MaxOrder+1)
		v.p, v.nodes = p, 60
		p = withOut(p, v.either(params, seed%3 == 0), params)
		p.Funcs[len(p.Funcs)-1].Outs = append(p.Funcs[len(p.Funcs)-1].Outs, variable(params-1))
		start, g := v.numbers(params), int64(len(p.Funcs)-1)
		y, code := impl.FlowOf(p, f, start, order)
		for pick := range int64(2) {
			observed, other := impl.ObservableAlong(p, f, start, g, pick, order)
			if code != impl.OK {
				refused(t, "an observable", observed, other, code)
				continue
			}
			outs, seen := impl.EvaluateSeries(p, g, y)
			if seen != impl.OK {
				refused(t, "an observable", observed, other, seen)
				continue
			}
			count++
			same(t, "an observable", fine(t)(observed, other), outs[pick])
			lower := v.Int63n(order + 1)
			same(t, "a lower order", fine(t)(impl.ObservableAlong(p, f, start, g, pick, lower)), observed[:lower+1])
		}
		for pick := range int64(len(y)) {
			same(t, "the field along the flow", fine(t)(impl.ObservableAlong(p, f, start, f, pick, order))[:order], fine(t)(impl.DerivativeOf(y[pick]))[:order])
		}
	}
	if count < 200 {
		t.Errorf("%d observables", count)
	}
}

func TestP23ObservablesByHand(t *testing.T) {
	p := reading(t, "rot 2: x1 | neg(x0)\nseen 2: (x0 * x0) | (x0 * x1) | 7 | if((x0 - 1); x1; 9)\nexp 1: x0\ninv 1: (1 / x0) | (x0 + 2)\ntime 1: 1\n")
	for _, c := range []struct {
		f, g, pick int64
		start      []int64
		want       []int64
	}{
		{0, 1, 0, []int64{1, 0}, []int64{1, 0, impl.P - 1, 0}}, {0, 1, 1, []int64{1, 0}, []int64{0, impl.P - 1, 0}}, {0, 1, 2, []int64{1, 0}, []int64{7, 0, 0, 0}}, {0, 1, 3, []int64{1, 0}, []int64{0, impl.P - 1, 0}}, {0, 1, 3, []int64{0, 1}, []int64{9, 0, 0}},
		{2, 3, 0, []int64{1}, quotientsOf(t, 1, impl.P-1, 1, impl.P-1, 1)}, {2, 3, 1, []int64{1}, quotientsOf(t, 3, 1, 1, 1)}, {2, 2, 0, []int64{5}, quotientsOf(t, 5, 5, 5, 5)}, {4, 3, 0, []int64{1}, []int64{1, impl.P - 1, 1, impl.P - 1}}, {4, 4, 0, []int64{3}, []int64{1, 0, 0}}, {4, 2, 0, []int64{3}, []int64{3, 1, 0}},
	} {
		for order := range int64(len(c.want)) {
			same(t, fmt.Sprint("the output ", c.pick, " of ", c.g, " along ", c.f), fine(t)(impl.ObservableAlong(p, c.f, c.start, c.g, c.pick, order)), c.want[:order+1])
		}
	}
}

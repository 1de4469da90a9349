package tests

import (
	"fmt"
	"slices"
	"strings"
	"testing"

	"loop.example/g01091/impl"
)

// manyTerms is a polynomial of two variables or more with the first so many terms,
// in order, of all that there are.
func manyTerms(vars int64, count int) impl.Poly {
	a := polyWith(vars)
	exps := make([]int64, vars)
	for len(a.Terms) < count {
		a.Terms = append(a.Terms, term(1, slices.Clone(exps)...))
		k := vars - 1
		for degreeOf(polyWith(vars, term(1, exps...))) == impl.MaxDegree {
			exps[k] = 0
			k--
		}
		exps[k]++
	}
	return a
}

func TestP10ValidPolynomials(t *testing.T) {
	for _, c := range []struct {
		name string
		a    impl.Poly
		want bool
	}{
		{"the zero value", impl.Poly{}, true}, {"no terms", polyWith(3), true}, {"no terms of most variables", polyWith(12), true},
		{"a constant without variables", polyWith(0, term(7)), true}, {"0 without variables", polyWith(0, term(0)), false}, {"two constants", polyWith(0, term(7), term(8)), false},
		{"too many variables", polyWith(13), false}, {"as many exponents", polyWith(13, term(1, make([]int64, 13)...)), false}, {"a negative number of variables", polyWith(-1), false},
		{"12 variables", polyWith(12, term(1, powers(12, 11, 1)...)), true}, {"a missing exponent", polyWith(2, term(1, 1)), false}, {"an exponent too many", polyWith(2, term(1, 1, 0, 0)), false},
		{"no exponents", polyWith(1, term(1)), false}, {"an exponent without variables", polyWith(0, term(1, 0)), false},
		{"a Coef of 0", polyWith(1, term(0, 1)), false}, {"a Coef of 0 behind others", polyWith(1, term(1, 0), term(0, 1)), false}, {"the least Coef", polyWith(1, term(1, 1)), true}, {"the greatest Coef", polyWith(1, term(impl.P-1, 1)), true},
		{"a Coef of P", polyWith(1, term(impl.P, 1)), false}, {"a negative Coef", polyWith(1, term(-1, 1)), false}, {"a large Coef", polyWith(1, term(1<<62, 1)), false},
		{"a negative exponent", polyWith(2, term(1, -1, 2)), false}, {"a negative last exponent", polyWith(2, term(1, 2, -1)), false}, {"the degree 12", polyWith(1, term(1, 12)), true}, {"the degree 13", polyWith(1, term(1, 13)), false},
		{"the degree 12 of several", polyWith(3, term(1, 4, 0, 8)), true}, {"the degree 13 of several", polyWith(3, term(1, 4, 1, 8)), false}, {"the degree 13 of the last term", polyWith(2, term(1, 0, 1), term(1, 1, 12)), false}, {"a huge exponent", polyWith(2, term(1, 1<<62, 1<<62)), false}, {"exponents whose sum is small again", polyWith(4, term(1, 1<<62, 1<<62, 1<<62, 1<<62)), false},
		{"equal terms", polyWith(1, term(1, 1), term(2, 1)), false}, {"equal terms behind others", polyWith(1, term(1, 0), term(1, 1), term(2, 1)), false}, {"out of order", polyWith(1, term(1, 1), term(1, 0)), false}, {"in order", polyWith(1, term(1, 0), term(1, 1), term(3, 12)), true},
		{"in order of the first variable", polyWith(2, term(1, 0, 5), term(1, 1, 0), term(1, 1, 1)), true}, {"in order of the last variable", polyWith(2, term(1, 5, 0), term(1, 0, 1)), false}, {"in order of the degree", polyWith(2, term(1, 1, 0), term(1, 0, 2)), false},
		{"120 terms", manyTerms(3, 120), true}, {"121 terms", manyTerms(3, 121), false}, {"120 terms of 12 variables", manyTerms(12, 120), true}, {"121 terms of 12 variables", manyTerms(12, 121), false},
	} {
		if impl.ValidPoly(c.a) != c.want {
			t.Errorf("%s: the validity is not %v", c.name, c.want)
		}
		text := ""
		if c.want {
			text = polyText(c.a)
		}
		if have := impl.PolyText(c.a); have != text {
			t.Errorf("%s: the text is %q", c.name, have)
		}
		if !c.want {
			expectInvalidPoly(t, c.a)
		}
	}
}

// expectInvalidPoly expects ErrInvalid ahead of all that is wrong besides.
func expectInvalidPoly(t *testing.T, a impl.Poly) {
	t.Helper()
	for _, other := range []impl.Poly{a, polyWith(1), polyWith(a.Vars)} {
		for _, q := range []symbolicQuestion{{a: a, b: other, variable: -1}, {a: other, b: a, variable: 99}} {
			expectSymbolicCode(t, "AddPoly", q, impl.ErrInvalid)
			expectSymbolicCode(t, "MulPoly", q, impl.ErrInvalid)
		}
	}
	q := symbolicQuestion{a: a, variable: 0, args: make([]int64, min(max(0, a.Vars), 20))}
	for range 2 {
		for _, name := range []string{"DerivePoly", "PolyValue", "PolyExpr"} {
			expectSymbolicCode(t, name, q, impl.ErrInvalid)
		}
		q.variable, q.args = -1, []int64{-1}
	}
}

func TestP10Texts(t *testing.T) {
	for want, a := range map[string]impl.Poly{
		"0":                         polyWith(2),
		"5":                         polyWith(2, term(5, 0, 0)),
		"1000002":                   polyWith(0, term(impl.P-1)),
		"1*x0^1":                    polyWith(1, term(1, 1)),
		"1*x0^1*x1^1 + 3*x0^2":      polyWith(2, term(1, 1, 1), term(3, 2, 0)),
		"7 + 2*x1^12 + 9*x0^3*x2^4": polyWith(3, term(7, 0, 0, 0), term(2, 0, 12, 0), term(9, 3, 0, 4)),
		"4*x11^1 + 4*x10^1":         polyWith(12, term(4, powers(12, 11, 1)...), term(4, powers(12, 10, 1)...)),
	} {
		if have := impl.PolyText(a); have != want || polyText(a) != want {
			t.Errorf("have %q, want %q", have, want)
		}
	}
}

// TestP10Operations compares with slow other ways to sums, products and
// derivatives, and with their values.
func TestP10Operations(t *testing.T) {
	codes := map[int64]int{}
	for seed := range int64(1500) {
		v := inventions(seed + 5000)
		vars := v.Int63n(5)
		a, b := v.poly(vars, 1+v.Int63n(impl.MaxDegree), 1+v.Intn(30)), v.poly(vars, 1+v.Int63n(12), 1+v.Intn(20))
		args := v.numbers(vars)
		first, second := fineNumber(t)(impl.PolyValue(a, args)), fineNumber(t)(impl.PolyValue(b, args))
		sum := finePoly(t)(impl.AddPoly(a, b))
		samePolys(t, "the sum", sum, plusSlowly(a, 1, b))
		sameNumber(t, "the value of the sum", fineNumber(t)(impl.PolyValue(sum, args)), impl.Plus(first, second))
		product, code := impl.MulPoly(a, b)
		codes[code]++
		if want := timesSlowly(a, b); fitsLimits(want) {
			samePolys(t, "the product", finePoly(t)(product, code), want)
			sameNumber(t, "the value of the product", fineNumber(t)(impl.PolyValue(product, args)), impl.Times(first, second))
		} else {
			expectSymbolicCode(t, "MulPoly", symbolicQuestion{a: a, b: b}, impl.ErrLimit)
		}
		for variable := range vars {
			var terms []impl.Term
			for _, x := range a.Terms {
				if x.Exps[variable] > 0 {
					terms = append(terms, term(x.Coef*x.Exps[variable], moved(x.Exps, powers(vars, variable, 1), -1)...))
				}
			}
			samePolys(t, "the derivative", finePoly(t)(impl.DerivePoly(a, variable)), collected(vars, terms))
		}
	}
	if codes[impl.OK] < 500 || codes[impl.ErrLimit] < 200 {
		t.Errorf("products have so often the codes %v", codes)
	}
}

// TestP10Values has polynomials at numbers that are reckoned term by term.
func TestP10Values(t *testing.T) {
	a := polyWith(2, term(7, 0, 0), term(2, 0, 3), term(impl.P-1, 1, 1), term(5, 12, 0))
	for _, c := range []struct{ x, y, want int64 }{{0, 0, 7}, {0, 1, 9}, {1, 0, 12}, {1, 1, 13}, {2, 3, 7 + 54 - 6 + 5*4096}, {impl.P - 1, 0, 12}, {impl.P - 1, impl.P - 1, 7 - 2 - 1 + 5}, {0, impl.P - 1, 5}} {
		sameNumber(t, fmt.Sprint("the value at ", c.x, " ", c.y), fineNumber(t)(impl.PolyValue(a, []int64{c.x, c.y})), impl.Residue(c.want))
	}
	sameNumber(t, "without terms", fineNumber(t)(impl.PolyValue(polyWith(3), []int64{1, 2, 3})), 0)
	sameNumber(t, "without variables", fineNumber(t)(impl.PolyValue(polyWith(0, term(7)), nil)), 7)
	sameNumber(t, "without both", fineNumber(t)(impl.PolyValue(polyWith(0), []int64{})), 0)
	for _, a := range []impl.Poly{a, polyWith(0, term(3)), polyWith(1), polyWith(12, term(3, powers(12, 5, 6)...))} {
		for _, args := range faultyNumbers(a.Vars) {
			expectSymbolicCode(t, "PolyValue", symbolicQuestion{a: a, args: args}, impl.ErrRange)
		}
		for _, variable := range outside(a.Vars) {
			expectSymbolicCode(t, "DerivePoly", symbolicQuestion{a: a, variable: variable}, impl.ErrRange)
		}
		for vars := range int64(impl.MaxParams + 1) {
			if vars != a.Vars {
				expectSymbolicCode(t, "AddPoly", symbolicQuestion{a: a, b: polyWith(vars)}, impl.ErrRange)
				expectSymbolicCode(t, "MulPoly", symbolicQuestion{a: polyWith(vars), b: a}, impl.ErrRange)
			}
		}
	}
}

func TestP10DerivativesByHand(t *testing.T) {
	a := polyWith(2, term(7, 0, 0), term(2, 0, 3), term(impl.P-1, 1, 1), term(5, 12, 0))
	samePolys(t, "for the variable 0", finePoly(t)(impl.DerivePoly(a, 0)), polyWith(2, term(impl.P-1, 0, 1), term(60, 11, 0)))
	samePolys(t, "for the variable 1", finePoly(t)(impl.DerivePoly(a, 1)), polyWith(2, term(6, 0, 2), term(impl.P-1, 1, 0)))
	samePolys(t, "of a constant", finePoly(t)(impl.DerivePoly(numberPoly(3, 9), 1)), polyWith(3))
	samePolys(t, "of 0", finePoly(t)(impl.DerivePoly(polyWith(3), 2)), polyWith(3))
	example := polyWith(2, term(1, 1, 1), term(3, 2, 0))
	if have := impl.PolyText(finePoly(t)(impl.DerivePoly(example, 0))); have != "1*x1^1 + 6*x0^1" {
		t.Errorf("the example is %s", have)
	}
	full := finePoly(t)(impl.DerivePoly(manyTerms(3, 120), 2))
	if len(full.Terms) <= 80 || len(full.Terms) >= 120 {
		t.Errorf("%d terms", len(full.Terms))
	}
}

// TestP10RingWithADerivation checks the laws of rings, and the rules for
// derivatives of sums and products.
func TestP10RingWithADerivation(t *testing.T) {
	for seed := range int64(300) {
		v := inventions(seed + 9000)
		vars := 1 + v.Int63n(3)
		plus := func(a, b impl.Poly) impl.Poly { return finePoly(t)(impl.AddPoly(a, b)) }
		times := func(a, b impl.Poly) impl.Poly { return finePoly(t)(impl.MulPoly(a, b)) }
		a, b, c := v.poly(vars, 3, 5), v.poly(vars, 3, 5), v.poly(vars, 3, 5)
		zero, one, minus := polyWith(vars), numberPoly(vars, 1), numberPoly(vars, impl.P-1)
		samePolys(t, "a + b = b + a", plus(a, b), plus(b, a))
		samePolys(t, "(a + b) + c = a + (b + c)", plus(plus(a, b), c), plus(a, plus(b, c)))
		samePolys(t, "a + 0 = a", plus(a, zero), a)
		samePolys(t, "0 + a = a", plus(zero, a), a)
		samePolys(t, "a + (-1) * a = 0", plus(a, times(minus, a)), zero)
		samePolys(t, "a * b = b * a", times(a, b), times(b, a))
		samePolys(t, "(a * b) * c = a * (b * c)", times(times(a, b), c), times(a, times(b, c)))
		samePolys(t, "a * (b + c) = a * b + a * c", times(a, plus(b, c)), plus(times(a, b), times(a, c)))
		samePolys(t, "a * 1 = a", times(a, one), a)
		samePolys(t, "a * 0 = 0", times(a, zero), zero)
		for i := range vars {
			by := func(a impl.Poly) impl.Poly { return finePoly(t)(impl.DerivePoly(a, i)) }
			samePolys(t, "(a + b)' = a' + b'", by(plus(a, b)), plus(by(a), by(b)))
			samePolys(t, "(a * b)' = a' * b + a * b'", by(times(a, b)), plus(times(by(a), b), times(a, by(b))))
			for k := range vars {
				other := finePoly(t)(impl.DerivePoly(by(a), k))
				samePolys(t, "second derivatives", by(finePoly(t)(impl.DerivePoly(a, k))), other)
			}
			samePolys(t, "x'", by(variablePoly(vars, i)), one)
		}
	}
}

// factors is the product of x + number for some of so many variables.
func factors(vars, number int64, variables ...int64) impl.Poly {
	product := numberPoly(vars, 1)
	for _, variable := range variables {
		factor := plusSlowly(variablePoly(vars, variable), number, numberPoly(vars, 1))
		product = timesSlowly(product, factor)
	}
	return product
}

// TestP10Limits has sums and products that just fit and that just do not, and some
// where by far more terms stand on the way than in the end.
func TestP10Limits(t *testing.T) {
	full, vars := manyTerms(3, 120), int64(3)
	next := plusSlowly(manyTerms(3, 121), impl.P-1, full)
	less := polyWith(vars, full.Terms[:119]...)
	minusFull := plusSlowly(polyWith(vars), impl.P-1, full)
	six := []int64{0, 1, 2, 3, 4, 5}
	ones, others := factors(6, 1, six...), factors(6, impl.P-1, six...)
	geometric := polyWith(1)
	for k := range int64(impl.MaxDegree) {
		geometric.Terms = append(geometric.Terms, term(1, k))
	}
	for _, c := range []struct {
		name         string
		a, b         impl.Poly
		sum, product int64
	}{
		{"120 and 1 terms", full, next, impl.ErrLimit, impl.ErrLimit}, {"119 and 1 terms", less, next, impl.OK, impl.ErrLimit}, {"1 and 119 terms", next, less, impl.OK, impl.ErrLimit},
		{"all terms vanish", full, minusFull, impl.OK, impl.ErrLimit}, {"no term vanishes", full, full, impl.OK, impl.ErrLimit},
		{"as many come as vanish", full, plusSlowly(next, impl.P-1, polyWith(vars, full.Terms[7])), impl.OK, impl.ErrLimit}, {"one more comes", full, plusSlowly(plusSlowly(next, impl.P-1, polyWith(vars, full.Terms[7])), 1, polyWith(vars, term(1, 1, 2, 7))), impl.ErrLimit, impl.ErrLimit},
		{"0 and 120 terms", polyWith(vars), full, impl.OK, impl.OK}, {"a number and 120 terms", numberPoly(vars, 2), full, impl.OK, impl.OK}, {"120 terms and a number", full, numberPoly(vars, impl.P-1), impl.OK, impl.OK},
		{"the degrees 6 and 6", polyWith(1, term(1, 6)), polyWith(1, term(1, 6)), impl.OK, impl.OK}, {"the degrees 6 and 7", polyWith(1, term(1, 6)), polyWith(1, term(1, 7)), impl.OK, impl.ErrLimit}, {"the degrees 12 and 1", polyWith(2, term(1, 0, 12)), polyWith(2, term(1, 1, 0)), impl.OK, impl.ErrLimit}, {"the degrees 12 and 0", polyWith(2, term(1, 0, 12)), numberPoly(2, 4), impl.OK, impl.OK},
		{"the degree 12 and 0", polyWith(2, term(1, 0, 12)), polyWith(2), impl.OK, impl.OK}, {"just one term of degree 13", polyWith(2, term(1, 0, 0), term(1, 0, 12)), polyWith(2, term(1, 0, 0), term(1, 0, 1)), impl.OK, impl.ErrLimit}, {"degrees that vanish in sums", polyWith(1, term(1, 12)), polyWith(1, term(impl.P-1, 12)), impl.OK, impl.ErrLimit},
		{"products of 729 terms, of which 64 remain", ones, others, impl.OK, impl.OK}, {"others, of which 64 remain", others, ones, impl.OK, impl.OK}, {"729 terms", ones, ones, impl.OK, impl.ErrLimit}, {"81 and 243 terms", factors(6, 1, 0, 1, 2, 3), factors(6, 1, 0, 1, 2, 3), impl.OK, impl.OK}, {"5 variables", factors(6, 1, 0, 1, 2, 3, 4), factors(6, 1, 0, 1, 2, 3, 4), impl.OK, impl.ErrLimit},
		{"8 and 3 terms", manyTerms(2, 8), polyWith(2, term(1, 0, 0), term(1, 1, 0), term(1, 2, 0)), impl.OK, impl.OK}, {"x^12 - 1", geometric, polyWith(1, term(impl.P-1, 0), term(1, 1)), impl.OK, impl.OK},
	} {
		q := symbolicQuestion{a: c.a, b: c.b}
		if !impl.ValidPoly(c.a) || !impl.ValidPoly(c.b) {
			t.Fatalf("%s: not valid", c.name)
		}
		expectSymbolicCode(t, "AddPoly", q, c.sum)
		expectSymbolicCode(t, "MulPoly", q, c.product)
		if c.sum == impl.OK {
			samePolys(t, "the sum of "+c.name, finePoly(t)(impl.AddPoly(c.a, c.b)), plusSlowly(c.a, 1, c.b))
		}
		if c.product == impl.OK {
			samePolys(t, "the product of "+c.name, finePoly(t)(impl.MulPoly(c.a, c.b)), timesSlowly(c.a, c.b))
		}
	}
	samePolys(t, "the product of 64 terms", finePoly(t)(impl.MulPoly(ones, others)), squares(6))
}

// squares is the product of x^2 - 1 for so many variables.
func squares(vars int64) impl.Poly {
	product := numberPoly(vars, 1)
	for k := range vars {
		product = timesSlowly(product, polyWith(vars, term(impl.P-1, powers(vars)...), term(1, powers(vars, k, 2)...)))
	}
	return product
}

// TestP10JustSoManyTerms multiplies polynomials of one variable each, so that the
// product has the product of their numbers of terms.
func TestP10JustSoManyTerms(t *testing.T) {
	line := func(variable int64, count int) impl.Poly {
		a := polyWith(3)
		for k := range int64(count) {
			a.Terms = append(a.Terms, term(1, powers(3, variable, k)...))
		}
		return a
	}
	for _, c := range []struct {
		x, y, z int
		want    int64
	}{{5, 5, 5, impl.ErrLimit}, {4, 5, 6, impl.OK}, {6, 5, 4, impl.OK}, {11, 11, 1, impl.ErrLimit}, {2, 2, 11, impl.OK}, {1, 1, 13, impl.OK}, {3, 5, 8, impl.ErrLimit}, {3, 5, 7, impl.OK}} {
		both := timesSlowly(line(0, c.x), line(2, c.z))
		expectSymbolicCode(t, "MulPoly", symbolicQuestion{a: both, b: line(1, c.y)}, c.want)
		expectSymbolicCode(t, "MulPoly", symbolicQuestion{a: line(1, c.y), b: both}, c.want)
	}
}

func TestP10PolyOfByHand(t *testing.T) {
	before := "sq 1: (x0 * x0) | 7\nstep 2: (x0 + x1) | (x0 * 2)\n"
	for _, c := range []struct {
		text, want string
		code       int64
	}{
		{"0", "0", 0}, {"9", "9", 0}, {"x1", "1*x1^1", 0}, {"(x0 + x1)", "1*x1^1 + 1*x0^1", 0}, {"(x0 - x1)", "1000002*x1^1 + 1*x0^1", 0}, {"(x0 - x0)", "0", 0}, {"neg(x0)", "1000002*x0^1", 0}, {"neg(0)", "0", 0}, {"neg((x0 - 3))", "3 + 1000002*x0^1", 0}, {"((x0 + 1) * (x0 - 1))", "1000002 + 1*x0^2", 0}, {"(x0 * 0)", "0", 0},
		{"(x0 / 2)", "500002*x0^1", 0}, {"((x0 + x1) / neg(1))", "1000002*x1^1 + 1000002*x0^1", 0}, {"(x0 / ((x1 + 4) - x1))", "250001*x0^1", 0}, {"(0 / 5)", "0", 0}, {"(x0 / (x1 - x1))", "", impl.ErrZero}, {"(x0 / 0)", "", impl.ErrZero}, {"(0 / 0)", "", impl.ErrZero}, {"(x0 / x0)", "", impl.ErrState}, {"(1 / (x0 + 1))", "", impl.ErrState}, {"(0 / x1)", "", impl.ErrState},
		{"if(0; x0; x1)", "1*x0^1", 0}, {"if((x0 - x0); x0; x1)", "1*x0^1", 0}, {"if((2 + (x1 - x1)); x0; x1)", "1*x1^1", 0}, {"if(x0; 1; 1)", "", impl.ErrState}, {"if((x0 * x1); 1; 1)", "", impl.ErrState}, {"if(0; x0; (1 / 0))", "1*x0^1", 0}, {"if(1; if(x0; 1; 2); 3)", "3", 0}, {"if(if(1; x0; 0); 8; 9)", "8", 0},
		{"((1 / x0) / 0)", "", impl.ErrState}, {"((1 / 0) / x0)", "", impl.ErrZero}, {"((x0 / 0) + (1 / x0))", "", impl.ErrZero}, {"((1 / x0) + (x0 / 0))", "", impl.ErrState}, {"(if(x0; 1; 2) / 0)", "", impl.ErrState}, {"(1 / if(0; 0; x0))", "", impl.ErrZero},
		{"let((x0 + 1); (x2 * x2))", "1 + 2*x0^1 + 1*x0^2", 0}, {"let(x0; let(x1; (x2 - x3)))", "1000002*x1^1 + 1*x0^1", 0}, {"let((x0 - x0); (1 / x2))", "", impl.ErrZero}, {"let(x0; (1 / x2))", "", impl.ErrState}, {"let((1 / 0); 1)", "", impl.ErrZero},
		{"sq.0((x0 + x1))", "1*x1^2 + 2*x0^1*x1^1 + 1*x0^2", 0}, {"sq.1((x0 / 0))", "", impl.ErrZero}, {"sq.1(x0)", "7", 0}, {"step.0^0(x1; x0)", "1*x1^1", 0}, {"step.1^0(x1; x0)", "1*x0^1", 0}, {"step.0^1(x1; x0)", "1*x1^1 + 1*x0^1", 0}, {"step.0^2(x1; x0)", "3*x1^1 + 1*x0^1", 0}, {"step.1^2(x1; x0)", "2*x1^1 + 2*x0^1", 0},
		{"sq.0(sq.0(sq.0(x0)))", "1*x0^8", 0}, {"sq.0(sq.0(sq.0(sq.0(x0))))", "", impl.ErrLimit}, {"(sq.0(sq.0(sq.0(x0))) * sq.0(sq.0(x1)))", "1*x0^8*x1^4", 0}, {"(sq.0(sq.0(sq.0(x0))) * (x0 * sq.0(sq.0(x1))))", "", impl.ErrLimit}, {"(sq.0(sq.0(sq.0(sq.0(x0)))) * 0)", "", impl.ErrLimit}, {"(0 * sq.0(sq.0(sq.0(sq.0(2)))))", "0", 0},
		{"((1 / 0) + sq.0(sq.0(sq.0(sq.0(x0)))))", "", impl.ErrZero}, {"(sq.0(sq.0(sq.0(sq.0(x0)))) / 0)", "", impl.ErrLimit}, {"(sq.0(sq.0(sq.0(sq.0(x0)))) / x0)", "", impl.ErrLimit},
	} {
		p := reading(t, before+"f 2: x1 | "+c.text+"\n")
		expectSymbolicCode(t, "PolyOf", symbolicQuestion{p: p, f: 2, pick: 1}, c.code)
		if a, code := impl.PolyOf(p, 2, 1); code == impl.OK && (impl.PolyText(a) != c.want || a.Vars != 2) {
			t.Errorf("%s: have %s of %d variables", c.text, impl.PolyText(a), a.Vars)
		}
		// All outputs are evaluated, also if another one is asked for.
		expectSymbolicCode(t, "PolyOf", symbolicQuestion{p: p, f: 2, pick: 0}, c.code)
	}
}

// TestP10PolyOfManyPrograms compares with a slow evaluation, and with values and
// derivatives where polynomials have them.
func TestP10PolyOfManyPrograms(t *testing.T) {
	codes := map[int64]int{}
	check := func(v *invention, p impl.Program) {
		for f, function := range p.Funcs {
			want, code := polysOf(p, int64(f))
			for pick := range function.Outs {
				codes[code]++
				expectSymbolicCode(t, "PolyOf", symbolicQuestion{p: p, f: int64(f), pick: int64(pick)}, code)
				if code == impl.OK {
					a := finePoly(t)(impl.PolyOf(p, int64(f), int64(pick)))
					samePolys(t, "PolyOf", a, want[pick])
					checkPolyAt(t, p, int64(f), int64(pick), a, v.numbers(function.Params))
				}
			}
		}
	}
	for seed := range int64(800) {
		v := inventions(seed)
		check(v, v.program(1+int(seed)%6))
		v.p, v.nodes = v.program(2), 100
		vars := 1 + v.Int63n(3)
		check(v, withOut(v.p, v.plain(vars, 4+v.Intn(6)), vars))
	}
	if codes[impl.OK] < 1000 || codes[impl.ErrState] < 500 || codes[impl.ErrZero] < 500 || codes[impl.ErrLimit] < 20 || codes[impl.ErrBudget] < 5 {
		t.Errorf("so often there are the codes %v", codes)
	}
}

// checkPolyAt compares the values and derivatives of a polynomial and of an output.
func checkPolyAt(t *testing.T, p impl.Program, f, pick int64, a impl.Poly, args []int64) {
	t.Helper()
	values, _, ok := evaluated(p, f, args)
	if !ok {
		t.Fatalf("no values at %v", args)
	}
	sameNumber(t, "the value", fineNumber(t)(impl.PolyValue(a, args)), values[pick])
	gradient := fine(t)(impl.GradientOf(p, f, pick, args))
	rows := fineRows(t)(impl.HessianOf(p, f, pick, args))
	for i := range a.Vars {
		derivative := finePoly(t)(impl.DerivePoly(a, i))
		sameNumber(t, "the derivative", fineNumber(t)(impl.PolyValue(derivative, args)), gradient[i])
		for k := range a.Vars {
			second := finePoly(t)(impl.DerivePoly(derivative, k))
			sameNumber(t, "the second derivative", fineNumber(t)(impl.PolyValue(second, args)), rows[i][k])
		}
	}
}

// TestP10PolyOfErrors has the order of all errors.
func TestP10PolyOfErrors(t *testing.T) {
	p := reading(t, "f 1: x0 | (1 / x0)\ng 0: 1 | 2\n")
	invalid := program(function("f", 1, variable(1)))
	for _, index := range outside(2) {
		expectSymbolicCode(t, "PolyOf", symbolicQuestion{p: p, f: index}, impl.ErrRange)
		expectSymbolicCode(t, "PolyOf", symbolicQuestion{p: p, f: 0, pick: index}, impl.ErrRange)
		expectSymbolicCode(t, "PolyOf", symbolicQuestion{p: p, f: 1, pick: index}, impl.ErrRange)
		expectSymbolicCode(t, "PolyOf", symbolicQuestion{p: invalid, f: index, pick: index}, impl.ErrInvalid)
	}
	expectSymbolicCode(t, "PolyOf", symbolicQuestion{}, impl.ErrRange)
	expectSymbolicCode(t, "PolyOf", symbolicQuestion{p: program(function("f", 1))}, impl.ErrInvalid)
	samePolys(t, "without params", finePoly(t)(impl.PolyOf(p, 1, 1)), polyWith(0, term(2)))
	for _, c := range []struct {
		first string
		steps int
		last  string
		want  int64
	}{
		{"", 2999, "", impl.OK}, {"", 3000, "", impl.OK}, {"", 3001, "", impl.ErrBudget}, {"", 2999, " | x0", impl.OK}, {"", 3000, " | x0", impl.ErrBudget},
		{"", 2997, " | (1 / x0)", impl.ErrState}, {"", 2998, " | (1 / x0)", impl.ErrBudget}, {"(1 / x0) | ", 3100, "", impl.ErrState}, {"", 2997, " | (1 / 0)", impl.ErrZero}, {"", 2998, " | (1 / 0)", impl.ErrBudget}, {"(1 / 0) | ", 3100, "", impl.ErrZero},
		{"", 2997, " | if(x0; 1; 2)", impl.ErrState}, {"", 2998, " | if(x0; 1; 2)", impl.ErrState}, {"", 2999, " | if(x0; 1; 2)", impl.ErrBudget}, {"", 2997, " | if(0; x0; 2)", impl.OK}, {"", 2998, " | if(0; x0; 2)", impl.ErrBudget},
	} {
		q := symbolicQuestion{p: budget(t, c.first, c.steps, c.last), f: 1}
		expectSymbolicCode(t, "PolyOf", q, c.want)
	}
	power := strings.Repeat("(x0 * ", 12) + "x0" + strings.Repeat(")", 12)
	expectSymbolicCode(t, "PolyOf", symbolicQuestion{p: budget(t, "", 2975, " | "+power), f: 1}, impl.ErrLimit)
	expectSymbolicCode(t, "PolyOf", symbolicQuestion{p: budget(t, "", 2976, " | "+power), f: 1}, impl.ErrBudget)
	expectSymbolicCode(t, "PolyOf", symbolicQuestion{p: budget(t, power+" | ", 3100, ""), f: 1}, impl.ErrLimit)
}

// TestP10TermsOnTheWay has functions with 120 and with 121 terms at a node, also
// where the output has fewer.
func TestP10TermsOnTheWay(t *testing.T) {
	// The product of (1 + x + ... + x^4), of the same for y up to y^4 and of that
	// for z up to z^3 has 100 terms of a degree up to 11.
	text := "sum 1: (1 + (x0 * (1 + (x0 * (1 + (x0 * (1 + x0)))))))\nless 1: (1 + (x0 * (1 + (x0 * (1 + x0)))))\n"
	text += "all 3: ((sum.0(x0) * sum.0(x1)) * less.0(x2))\n"
	twenty := "all.0(x0; x1; x2)"
	for _, power := range []int{5, 6, 7, 8} {
		twenty = "(" + twenty + " + (" + strings.Repeat("(x0 * ", power-1) + "x0" + strings.Repeat(")", power-1) + " * sum.0(x1)))"
	}
	for _, c := range []struct {
		text string
		want int64
	}{
		{twenty, impl.OK}, {"(" + twenty + " + (x2 * (x2 * (x2 * x2))))", impl.ErrLimit}, {"((" + twenty + " + (x2 * (x2 * (x2 * x2)))) - (x2 * (x2 * (x2 * x2))))", impl.ErrLimit}, {"(" + twenty + " + (x2 * (x2 * x2)))", impl.OK},
		{"((" + twenty + " - (x2 * (x2 * x2))) + (x2 * (x2 * (x2 * x2))))", impl.OK}, {"(0 * (" + twenty + " + (x2 * (x2 * (x2 * x2)))))", impl.ErrLimit}, {"neg(" + twenty + ")", impl.OK}, {"(" + twenty + " / 7)", impl.OK}, {"(" + twenty + " - " + twenty + ")", impl.OK}, {"(" + twenty + " * x0)", impl.ErrLimit},
	} {
		p := reading(t, text+"f 3: "+c.text+"\n")
		expectSymbolicCode(t, "PolyOf", symbolicQuestion{p: p, f: 3}, c.want)
		want, code := polysOf(p, 3)
		sameNumber(t, "the code by another way", code, c.want)
		if code == impl.OK {
			samePolys(t, c.text, finePoly(t)(impl.PolyOf(p, 3, 0)), want[0])
		}
	}
}

// slowExpr is the expression of a polynomial, without any limit.
func slowExpr(a impl.Poly) impl.Expr {
	var terms []impl.Expr
	for _, term := range a.Terms {
		e := num(term.Coef)
		for variableOf, exp := range term.Exps {
			for range exp {
				e = tree(impl.KMul, e, variable(int64(variableOf)))
			}
		}
		terms = append(terms, e)
	}
	if len(terms) == 0 {
		return num(0)
	}
	for len(terms) > 1 {
		terms = append([]impl.Expr{tree(impl.KAdd, terms[0], terms[1])}, terms[2:]...)
	}
	return terms[0]
}

func TestP10Expressions(t *testing.T) {
	for want, a := range map[string]impl.Poly{
		"0":                      polyWith(2),
		"5":                      polyWith(2, term(5, 0, 0)),
		"7":                      polyWith(0, term(7)),
		"(1 * x1)":               polyWith(2, term(1, 0, 1)),
		"((3 * x0) * x0)":        polyWith(2, term(3, 2, 0)),
		"(((3 * x0) * x0) * x1)": polyWith(2, term(3, 2, 1)),
		"(((4 + (9 * x1)) + (1000002 * x0)) + ((2 * x0) * x1))": polyWith(2, term(4, 0, 0), term(9, 0, 1), term(impl.P-1, 1, 0), term(2, 1, 1)),
	} {
		e := fineExpr(t)(impl.PolyExpr(a))
		if have := impl.ExprText(impl.Program{}, e, a.Vars, 0); have != want {
			t.Errorf("have %s, want %s", have, want)
		}
	}
	for seed := range int64(300) {
		v := inventions(seed)
		a := v.poly(v.Int63n(4), 6, 25)
		e := fineExpr(t)(impl.PolyExpr(a))
		sameExprs(t, "the expression", e, slowExpr(a))
		samePolys(t, "the polynomial of the expression", finePoly(t)(impl.PolyOf(withOut(impl.Program{}, e, a.Vars), 0, 0)), a)
	}
}

// ofDegree has so many terms of a degree, without the constant term.
func ofDegree(degree int64, count int) []impl.Term {
	var terms []impl.Term
	for i := range int64(12) {
		for k := range i + 1 {
			if len(terms) < count {
				terms = append(terms, term(2, moved(powers(12, i, degree-1), powers(12, k, 1), 1)...))
			}
		}
	}
	return terms
}

// TestP10LimitsOfExpressions has polynomials whose expressions have 60 or 61
// levels, and 399 or 401 nodes.
func TestP10LimitsOfExpressions(t *testing.T) {
	for _, c := range []struct {
		terms       []impl.Term
		size, depth int64
	}{
		{ofDegree(2, 58), 347, 60}, {ofDegree(2, 59), 353, 61}, {ofDegree(2, 57), 341, 59}, {ofDegree(2, 66), 395, 68}, {ofDegree(2, 67), 401, 69},
		{ofDegree(9, 20), 399, 29}, {append(ofDegree(9, 19), ofDegree(10, 1)...), 401, 29}, {ofDegree(11, 16), 383, 27}, {append(ofDegree(11, 16), ofDegree(7, 1)...), 399, 28}, {append(ofDegree(11, 16), ofDegree(8, 1)...), 401, 28}, {ofDegree(12, 16), 415, 28}, {ofDegree(12, 15), 389, 27},
		{manyTerms(12, 40).Terms, 0, 0}, {manyTerms(12, 50).Terms, 0, 0}, {manyTerms(12, 120).Terms, 0, 0}, {ofDegree(12, 1), 25, 13},
	} {
		a := collected(12, c.terms)
		e := slowExpr(a)
		size, depth := impl.ExprSize(e), impl.ExprDepth(e)
		if c.size > 0 && (size != c.size || depth != c.depth) {
			t.Errorf("%d nodes and %d levels, want %d and %d", size, depth, c.size, c.depth)
		}
		if size > impl.MaxNodes || depth > impl.MaxDepth {
			expectSymbolicCode(t, "PolyExpr", symbolicQuestion{a: a}, impl.ErrLimit)
		} else {
			sameExprs(t, "the expression", fineExpr(t)(impl.PolyExpr(a)), e)
		}
	}
}

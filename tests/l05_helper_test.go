package tests

import (
	"fmt"
	"reflect"
	"slices"
	"strings"
	"testing"

	"loop.example/g01091/impl"
)

// symbolicQuestion has arguments for all functions of chapter 5.
type symbolicQuestion struct {
	p                 impl.Program
	e                 impl.Expr
	a, b              impl.Poly
	f, pick, variable int64
	vars, funcs       int64
	args, path        []int64
	r                 impl.Rule
	rules             []impl.Rule
	steps             []impl.Step
}

// symbolicFunction is a function of chapter 5. The last of its results is its
// code, if it has one.
type symbolicFunction struct {
	name  string
	codes bool
	call  func(q symbolicQuestion) []any
}

// symbolicFunctions are all functions of chapter 5.
func symbolicFunctions() []symbolicFunction {
	return append(polyFunctions(),
		symbolicFunction{"IsTotal", false, func(q symbolicQuestion) []any { return results(impl.IsTotal(q.e)) }},
		symbolicFunction{"ValidRule", false, func(q symbolicQuestion) []any { return results(impl.ValidRule(q.r)) }},
		symbolicFunction{"StandardRules", false, func(symbolicQuestion) []any { return results(impl.StandardRules()) }},
		symbolicFunction{"CheckRule", true, func(q symbolicQuestion) []any {
			sound, point, code := impl.CheckRule(q.r)
			return results(sound, point, code)
		}},
		symbolicFunction{"RewriteAt", true, func(q symbolicQuestion) []any {
			e, code := impl.RewriteAt(q.p, q.e, q.vars, q.funcs, q.r, q.path)
			return results(e, code)
		}},
		symbolicFunction{"CheckSteps", true, func(q symbolicQuestion) []any {
			e, count, code := impl.CheckSteps(q.p, q.e, q.vars, q.funcs, q.rules, q.steps)
			return results(count, e, code)
		}},
		symbolicFunction{"SimplifyExpr", true, func(q symbolicQuestion) []any {
			e, steps, code := impl.SimplifyExpr(q.p, q.e, q.vars, q.funcs)
			return results(e, steps, code)
		}},
		symbolicFunction{"SimplifyProgram", true, func(q symbolicQuestion) []any {
			p, code := impl.SimplifyProgram(q.p)
			return results(p, code)
		}},
		symbolicFunction{"DerivedProgram", true, func(q symbolicQuestion) []any {
			p, code := impl.DerivedProgram(q.p)
			return results(p, code)
		}},
	)
}

// polyFunctions are those of the section Polynomials.
func polyFunctions() []symbolicFunction {
	return []symbolicFunction{
		{"ValidPoly", false, func(q symbolicQuestion) []any { return results(impl.ValidPoly(q.a)) }},
		{"PolyText", false, func(q symbolicQuestion) []any { return results(impl.PolyText(q.a)) }},
		{"AddPoly", true, func(q symbolicQuestion) []any {
			sum, code := impl.AddPoly(q.a, q.b)
			return results(sum, code)
		}},
		{"MulPoly", true, func(q symbolicQuestion) []any {
			product, code := impl.MulPoly(q.a, q.b)
			return results(product, code)
		}},
		{"DerivePoly", true, func(q symbolicQuestion) []any {
			derivative, code := impl.DerivePoly(q.a, q.variable)
			return results(derivative, code)
		}},
		{"PolyValue", true, func(q symbolicQuestion) []any {
			value, code := impl.PolyValue(q.a, q.args)
			return results(value, code)
		}},
		{"PolyOf", true, func(q symbolicQuestion) []any {
			a, code := impl.PolyOf(q.p, q.f, q.pick)
			return results(a, code)
		}},
		{"PolyExpr", true, func(q symbolicQuestion) []any {
			e, code := impl.PolyExpr(q.a)
			return results(e, code)
		}},
	}
}

// expectSymbolicCode fails the test unless a function of chapter 5 has a code, and
// nothing beside it if this is an error.
func expectSymbolicCode(t *testing.T, name string, q symbolicQuestion, want int64) {
	t.Helper()
	list := symbolicFunctions()
	f := list[slices.IndexFunc(list, func(f symbolicFunction) bool { return f.name == name })]
	have := f.call(q)
	if codeOf(have) != want {
		t.Errorf("%s: %s, want the code %d", name, brief(have), want)
	}
	if want != impl.OK && !isNothing(have[:len(have)-1]) {
		t.Errorf("%s: %s beside the code %d", name, brief(have), want)
	}
}

// isNothing tells whether all results are zero values, in which lists may be empty.
func isNothing(results []any) bool {
	for _, result := range results {
		if !isBlank(reflect.ValueOf(result)) {
			return false
		}
	}
	return true
}

// isBlank tells whether a value is a zero value, in which lists may be empty.
func isBlank(v reflect.Value) bool {
	switch v.Kind() {
	case reflect.Slice:
		return v.Len() == 0
	case reflect.Struct:
		for k := range v.NumField() {
			if !isBlank(v.Field(k)) {
				return false
			}
		}
		return true
	}
	return v.IsZero()
}

// polyWith is a polynomial with some terms.
func polyWith(vars int64, terms ...impl.Term) impl.Poly { return impl.Poly{Vars: vars, Terms: terms} }

func term(coef int64, exps ...int64) impl.Term { return impl.Term{Exps: exps, Coef: coef} }

// powers are the exponents of so many variables that are 0 but for those that are
// given in pairs of a variable and an exponent.
func powers(vars int64, pairs ...int64) []int64 {
	exps := make([]int64, vars)
	for k := 0; k < len(pairs); k += 2 {
		exps[pairs[k]] = pairs[k+1]
	}
	return exps
}

// polyText is the text of a polynomial, after the document.
func polyText(a impl.Poly) string {
	if len(a.Terms) == 0 {
		return "0"
	}
	var texts []string
	for _, term := range a.Terms {
		text := fmt.Sprint(term.Coef)
		for variable, exp := range term.Exps {
			if exp != 0 {
				text += fmt.Sprintf("*x%d^%d", variable, exp)
			}
		}
		texts = append(texts, text)
	}
	return strings.Join(texts, " + ")
}

// samePolys fails the test unless polynomials are equal.
func samePolys(t *testing.T, name string, have, want impl.Poly) {
	t.Helper()
	if have.Vars != want.Vars || fmt.Sprint(have.Terms) != fmt.Sprint(want.Terms) {
		t.Errorf("%s: have %d %s, want %d %s", name, have.Vars, polyText(have), want.Vars, polyText(want))
	}
}

// finePoly passes a polynomial on if the code is OK.
func finePoly(t *testing.T) func(a impl.Poly, code int64) impl.Poly {
	return func(a impl.Poly, code int64) impl.Poly {
		t.Helper()
		if code != impl.OK || !impl.ValidPoly(a) {
			t.Fatalf("%s with the code %d", polyText(a), code)
		}
		return a
	}
}

// fineExpr passes an expression on if the code is OK.
func fineExpr(t *testing.T) func(e impl.Expr, code int64) impl.Expr {
	return func(e impl.Expr, code int64) impl.Expr {
		t.Helper()
		if code != impl.OK {
			t.Fatalf("%s with the code %d", brief(e), code)
		}
		return e
	}
}

// fineProgram passes a program on if the code is OK.
func fineProgram(t *testing.T) func(p impl.Program, code int64) impl.Program {
	return func(p impl.Program, code int64) impl.Program {
		t.Helper()
		if code != impl.OK || !impl.ValidProgram(p) {
			t.Fatalf("%s with the code %d", brief(p), code)
		}
		return p
	}
}

// collected adds up terms, leaves out those that are 0, and puts them in order.
func collected(vars int64, terms []impl.Term) impl.Poly {
	var sums []impl.Term
	for _, term := range terms {
		k := slices.IndexFunc(sums, func(other impl.Term) bool { return slices.Equal(other.Exps, term.Exps) })
		if k < 0 {
			sums = append(sums, impl.Term{Exps: slices.Clone(term.Exps), Coef: impl.Residue(term.Coef)})
		} else {
			sums[k].Coef = impl.Residue(sums[k].Coef + term.Coef)
		}
	}
	sums = slices.DeleteFunc(sums, func(term impl.Term) bool { return term.Coef == 0 })
	slices.SortFunc(sums, func(a, b impl.Term) int { return slices.Compare(a.Exps, b.Exps) })
	return polyWith(vars, sums...)
}

// plusSlowly is a plus so many times b.
func plusSlowly(a impl.Poly, times int64, b impl.Poly) impl.Poly {
	terms := slices.Clone(a.Terms)
	for _, term := range b.Terms {
		terms = append(terms, impl.Term{Exps: term.Exps, Coef: impl.Times(times, term.Coef)})
	}
	return collected(a.Vars, terms)
}

func timesSlowly(a, b impl.Poly) impl.Poly {
	var terms []impl.Term
	for _, x := range a.Terms {
		for _, y := range b.Terms {
			exps := slices.Clone(x.Exps)
			for k := range exps {
				exps[k] += y.Exps[k]
			}
			terms = append(terms, impl.Term{Exps: exps, Coef: x.Coef * y.Coef % impl.P})
		}
	}
	return collected(a.Vars, terms)
}

// degreeOf is the greatest sum of the exponents of a term.
func degreeOf(a impl.Poly) int64 {
	degree := int64(0)
	for _, term := range a.Terms {
		sum := int64(0)
		for _, exp := range term.Exps {
			sum += exp
		}
		degree = max(degree, sum)
	}
	return degree
}

// fitsLimits tells whether a polynomial is within the limits of valid ones.
func fitsLimits(a impl.Poly) bool {
	return len(a.Terms) <= impl.MaxTerms && degreeOf(a) <= impl.MaxDegree
}

// numberPoly is the constant polynomial of a number.
func numberPoly(vars, number int64) impl.Poly {
	return collected(vars, []impl.Term{term(number, make([]int64, vars)...)})
}

// variablePoly is the polynomial of a variable.
func variablePoly(vars, variable int64) impl.Poly {
	return polyWith(vars, term(1, powers(vars, variable, 1)...))
}

// reckonPoly does an operation of polynomials, or panics with the code of an error.
func reckonPoly(kind int64, kids []impl.Poly) impl.Poly {
	result := kids[0]
	switch kind {
	case impl.KAdd:
		result = plusSlowly(kids[0], 1, kids[1])
	case impl.KSub:
		result = plusSlowly(kids[0], impl.P-1, kids[1])
	case impl.KMul:
		result = timesSlowly(kids[0], kids[1])
	case impl.KNeg:
		result = plusSlowly(polyWith(result.Vars), impl.P-1, kids[0])
	case impl.KDiv:
		if isZeroPoly(kids[1]) {
			panic(int64(impl.ErrZero))
		}
		inverse, _ := impl.Inverse(kids[1].Terms[0].Coef)
		result = plusSlowly(polyWith(result.Vars), inverse, kids[0])
	}
	if !fitsLimits(result) {
		panic(int64(impl.ErrLimit))
	}
	return result
}

// isZeroPoly tells whether a polynomial is 0, or panics if it is not constant.
func isZeroPoly(a impl.Poly) bool {
	if degreeOf(a) > 0 {
		panic(int64(impl.ErrState))
	}
	return len(a.Terms) == 0
}

// polysOf are the polynomials of all outputs of a function, and OK.
func polysOf(p impl.Program, f int64) ([]impl.Poly, int64) {
	params := p.Funcs[f].Params
	var args []impl.Poly
	for k := range params {
		args = append(args, variablePoly(params, k))
	}
	number := func(number int64) impl.Poly { return numberPoly(params, number) }
	return reckonedWith(&reckoner[impl.Poly]{p: p, number: number, isZero: isZeroPoly, reckon: reckonPoly}, f, args)
}

// poly makes a valid polynomial of a degree with at most so many terms.
func (v *invention) poly(vars, degree int64, terms int) impl.Poly {
	var list []impl.Term
	for range v.Intn(terms + 1) {
		exps := make([]int64, vars)
		for range v.Int63n(degree + 1) {
			if vars > 0 {
				exps[v.Int63n(vars)]++
			}
		}
		list = append(list, term(v.numbers(1)[0], exps...))
	}
	return collected(vars, list)
}

// plain makes an expression of the kinds that rules have, with so many levels at
// most.
func (v *invention) plain(vars int64, depth int) impl.Expr {
	if depth == 1 || v.Intn(6) == 0 {
		if vars > 0 && v.Intn(3) > 0 {
			return variable(v.Int63n(vars))
		}
		return num(v.Int63n(3))
	}
	kind := []int64{impl.KAdd, impl.KSub, impl.KMul, impl.KMul, impl.KNeg}[v.Intn(5)]
	if kind == impl.KNeg {
		return tree(kind, v.plain(vars, depth-1))
	}
	return tree(kind, v.plain(vars, depth-1), v.plain(vars, depth-1))
}

// expression is the expression with a text, which has to be one, in the
// environment of all functions.
func expression(t *testing.T, p impl.Program, text string, vars int64) impl.Expr {
	t.Helper()
	e, code := impl.ReadExpr(p, text, vars, int64(len(p.Funcs)))
	if code != impl.OK {
		t.Fatalf("%q is read with the code %d", text, code)
	}
	return e
}

// rule is the rule with the texts of both sides.
func rule(t *testing.T, vars int64, left, right string) impl.Rule {
	t.Helper()
	return impl.Rule{Vars: vars, Left: expression(t, impl.Program{}, left, vars), Right: expression(t, impl.Program{}, right, vars)}
}

// ruleText is the text of a rule.
func ruleText(r impl.Rule) string {
	return fmt.Sprint(r.Vars, ": ", textOf(impl.Program{}, r.Left), " = ", textOf(impl.Program{}, r.Right))
}

// sameExprs fails the test unless expressions are equal.
func sameExprs(t *testing.T, name string, have, want impl.Expr) {
	t.Helper()
	if !impl.SameExpr(have, want) {
		t.Errorf("%s: have %s, want %s", name, brief(have), brief(want))
	}
}

// withOut is a program with one more function behind the others, whose output is an
// expression.
func withOut(p impl.Program, e impl.Expr, vars int64) impl.Program {
	return program(append(slices.Clone(p.Funcs), function("zzz", vars, e))...)
}

package tests

import (
	"fmt"
	"math/big"
	"slices"
	"testing"

	"loop.example/g01091/impl"
)

// question has arguments for all functions of chapter 3.
type question struct {
	p                            impl.Program
	f, pick, param, order, count int64
	args, dir, params            []int64
	path                         [][]int64
}

// forwardFunction is a function of chapter 3 with the arguments that it has
// besides the program and the function.
type forwardFunction struct {
	name string
	uses []string
	call func(q question) []any
}

func forwardFunctions() []forwardFunction {
	return []forwardFunction{
		{"EvaluateSeries", []string{"path"}, func(q question) []any {
			outs, code := impl.EvaluateSeries(q.p, q.f, q.path)
			return results(outs, code)
		}},
		{"TaylorOf", []string{"args", "dir", "order"}, func(q question) []any {
			outs, code := impl.TaylorOf(q.p, q.f, q.args, q.dir, q.order)
			return results(outs, code)
		}},
		{"Directional", []string{"args", "dir"}, func(q question) []any {
			outs, slopes, code := impl.Directional(q.p, q.f, q.args, q.dir)
			return results(outs, slopes, code)
		}},
		{"Partial", []string{"args", "param"}, func(q question) []any {
			slopes, code := impl.Partial(q.p, q.f, q.param, q.args)
			return results(slopes, code)
		}},
		{"GradientOf", []string{"args", "pick"}, func(q question) []any {
			slopes, code := impl.GradientOf(q.p, q.f, q.pick, q.args)
			return results(slopes, code)
		}},
		{"JacobianOf", []string{"args"}, func(q question) []any {
			rows, code := impl.JacobianOf(q.p, q.f, q.args)
			return results(rows, code)
		}},
		{"HigherDerivative", []string{"args", "dir", "pick", "order"}, func(q question) []any {
			number, code := impl.HigherDerivative(q.p, q.f, q.pick, q.args, q.dir, q.order)
			return results(number, code)
		}},
		{"HessianOf", []string{"args", "pick"}, func(q question) []any {
			rows, code := impl.HessianOf(q.p, q.f, q.pick, q.args)
			return results(rows, code)
		}},
		{"HessianTimes", []string{"args", "dir", "pick"}, func(q question) []any {
			products, code := impl.HessianTimes(q.p, q.f, q.pick, q.args, q.dir)
			return results(products, code)
		}},
		{"MixedDerivative", []string{"args", "pick", "params"}, func(q question) []any {
			number, code := impl.MixedDerivative(q.p, q.f, q.pick, q.args, q.params)
			return results(number, code)
		}},
		{"PathDerivative", []string{"path", "pick"}, func(q question) []any {
			slopes, code := impl.PathDerivative(q.p, q.f, q.pick, q.path)
			return results(slopes, code)
		}},
		{"SlopeAlong", []string{"args", "dir", "pick", "count"}, func(q question) []any {
			slopes, code := impl.SlopeAlong(q.p, q.f, q.pick, q.args, q.dir, q.count)
			return results(slopes, code)
		}},
	}
}

// codeOf is the code of a call.
func codeOf(results []any) int64 { return results[len(results)-1].(int64) }

// questionAt has valid arguments for a function of a program, at some numbers.
func questionAt(p impl.Program, f int64, args []int64) question {
	q := question{p: p, f: f, order: 2, count: 1, args: args, dir: slices.Clone(args)}
	for _, arg := range args {
		q.params = []int64{0}
		q.path = append(q.path, []int64{arg, 1, 2})
	}
	return q
}

// expectCode fails the test unless a call has a code, and nothing beside it if
// this is an error.
func expectCode(t *testing.T, f forwardFunction, q question, want int64) {
	t.Helper()
	have := f.call(q)
	if codeOf(have) != want {
		t.Errorf("%s of the function %d at %v %v: %v, want the code %d", f.name, q.f, q.args, q.path, have, want)
	}
	if want != impl.OK && fmt.Sprint(have[:len(have)-1]...) != nothing(have) {
		t.Errorf("%s of the function %d at %v %v: %v beside the code %d", f.name, q.f, q.args, q.path, have, want)
	}
}

// nothing is how zero values in place of all results but the code look.
func nothing(results []any) string {
	var zeros []any
	for _, result := range results[:len(results)-1] {
		if _, number := result.(int64); number {
			zeros = append(zeros, 0)
		} else {
			zeros = append(zeros, []int64{})
		}
	}
	return fmt.Sprint(zeros...)
}

// expectCodes expects a code of all functions of chapter 3. Partial has none but
// ErrRange for a function without params.
func expectCodes(t *testing.T, q question, want int64) {
	t.Helper()
	for _, f := range forwardFunctions() {
		if f.name == "Partial" && len(q.args) == 0 {
			expectCode(t, f, q, impl.ErrRange)
		} else {
			expectCode(t, f, q, want)
		}
	}
}

// fine passes a list on if the code is OK.
func fine(t *testing.T) func(list []int64, code int64) []int64 {
	return func(list []int64, code int64) []int64 {
		t.Helper()
		if code != impl.OK {
			t.Fatalf("code %d, want OK", code)
		}
		return list
	}
}

// fineRows passes rows on if the code is OK.
func fineRows(t *testing.T) func(rows [][]int64, code int64) [][]int64 {
	return func(rows [][]int64, code int64) [][]int64 {
		t.Helper()
		if code != impl.OK {
			t.Fatalf("code %d, want OK", code)
		}
		return rows
	}
}

// fineNumber passes a number on if the code is OK.
func fineNumber(t *testing.T) func(number, code int64) int64 {
	return func(number, code int64) int64 {
		t.Helper()
		if code != impl.OK {
			t.Fatalf("code %d, want OK", code)
		}
		return number
	}
}

// sameRows fails the test unless rows are equal.
func sameRows(t *testing.T, name string, have, want [][]int64) {
	t.Helper()
	if !slices.EqualFunc(have, want, slices.Equal) {
		t.Errorf("%s: have %v, want %v", name, have, want)
	}
}

// sameNumber fails the test unless numbers are equal.
func sameNumber(t *testing.T, name string, have, want int64) {
	t.Helper()
	if have != want {
		t.Errorf("%s: have %d, want %d", name, have, want)
	}
}

// dot is the sum of the products of the elements of two lists.
func dot(a, b []int64) int64 {
	sum := int64(0)
	for k := range a {
		sum = impl.Plus(sum, impl.Times(a[k], b[k]))
	}
	return sum
}

// rowsTimes are the sums of rows whose elements are multiplied by a list.
func rowsTimes(rows [][]int64, list []int64) []int64 {
	var sums []int64
	for _, row := range rows {
		sums = append(sums, dot(row, list))
	}
	return sums
}

// column is the list of the elements with an index of rows.
func column(rows [][]int64, k int) []int64 {
	var list []int64
	for _, row := range rows {
		list = append(list, row[k])
	}
	return list
}

// moved is a list plus so many times another one.
func moved(list, dir []int64, times int64) []int64 {
	var sums []int64
	for k := range list {
		sums = append(sums, impl.Plus(list[k], impl.Times(times, dir[k])))
	}
	return sums
}

// series are so many series of an order.
func (v *invention) series(count, order int64) [][]int64 {
	var lists [][]int64
	for range count {
		lists = append(lists, v.numbers(order+1))
	}
	return lists
}

// beginnings are the lists of the first numbers of some lists.
func beginnings(lists [][]int64, length int64) [][]int64 {
	var first [][]int64
	for _, list := range lists {
		first = append(first, list[:length])
	}
	return first
}

// exponents are those of at most three variables.
type exponents [3]int64

func (x exponents) total() int64 { return x[0] + x[1] + x[2] }

// jet is a polynomial of at most three variables, whose terms have at most a
// certain degree. Terms with other degrees are left out of products.
type jet map[exponents]int64

// plus is a plus so many times b.
func (a jet) plus(times int64, b jet) jet {
	result := jet{}
	for x, number := range a {
		result[x] = number
	}
	for x, number := range b {
		result[x] = impl.Residue(result[x] + times*number)
	}
	return result
}

func (a jet) times(b jet, degree int64) jet {
	result := jet{}
	for x, first := range a {
		for y, second := range b {
			z := exponents{x[0] + y[0], x[1] + y[1], x[2] + y[2]}
			if z.total() <= degree {
				result[z] = (result[z] + first*second) % impl.P
			}
		}
	}
	return result
}

// over is the quotient by c (1 - e), that is (1 + e + e^2 + ...) / c times a.
func (a jet) over(b jet, degree int64) jet {
	c := new(big.Int).ModInverse(big.NewInt(b[exponents{}]), big.NewInt(impl.P)).Int64()
	e := constantJet(1).plus(-c, b)
	sum := constantJet(1)
	for range degree {
		sum = constantJet(1).plus(1, sum.times(e, degree))
	}
	return jet{}.plus(c, a.times(sum, degree))
}

func constantJet(number int64) jet { return jet{exponents{}: number} }

// jetOf is the polynomial of the first variable with a series as coefficients.
func jetOf(list []int64) jet {
	result := jet{}
	for k, number := range list {
		result[exponents{int64(k)}] = number
	}
	return result
}

// seriesOf is the series of an order of a polynomial of the first variable.
func (a jet) seriesOf(order int64) []int64 {
	list := make([]int64, order+1)
	for x, number := range a {
		list[x[0]] = number
	}
	return list
}

// reckoner is an evaluation with values of some kind, which panics with the code of
// an error. It is another one than that of the program.
type reckoner[V any] struct {
	p      impl.Program
	steps  int64
	number func(number int64) V
	isZero func(condition V) bool
	reckon func(kind int64, kids []V) V
}

func (r *reckoner[V]) value(e impl.Expr, vars []V) V {
	if r.steps++; r.steps > impl.MaxSteps {
		panic(int64(impl.ErrBudget))
	}
	if e.Kind == impl.KIf {
		if r.isZero(r.value(e.Kids[0], vars)) {
			return r.value(e.Kids[1], vars)
		}
		return r.value(e.Kids[2], vars)
	}
	var kids []V
	for _, kid := range e.Kids {
		kids = append(kids, r.value(kid, slices.Concat(vars, kids[:min(len(kids), letsOf(e))])))
	}
	switch e.Kind {
	case impl.KNum:
		return r.number(e.Num)
	case impl.KVar:
		return vars[e.Num]
	case impl.KLet:
		return kids[1]
	case impl.KCall:
		return r.value(r.p.Funcs[e.Num].Outs[e.Pick], kids)
	case impl.KLoop:
		for range e.Count {
			kids = r.outs(e.Num, kids)
		}
		return kids[e.Pick]
	}
	return r.reckon(e.Kind, kids)
}

func (r *reckoner[V]) outs(f int64, args []V) []V {
	var list []V
	for _, out := range r.p.Funcs[f].Outs {
		list = append(list, r.value(out, args))
	}
	return list
}

// reckonedWith are the values of all outputs of a function, and OK.
func reckonedWith[V any](r *reckoner[V], f int64, args []V) (outs []V, code int64) {
	defer func() {
		if fault := recover(); fault != nil {
			outs, code = nil, fault.(int64)
		}
	}()
	return r.outs(f, args), impl.OK
}

// jetReckoning does the operations of polynomials up to a degree.
type jetReckoning struct{ degree int64 }

func (r jetReckoning) arithmetic(kind int64, kids []jet) jet {
	switch kind {
	case impl.KAdd:
		return kids[0].plus(1, kids[1])
	case impl.KSub:
		return kids[0].plus(-1, kids[1])
	case impl.KMul:
		return kids[0].times(kids[1], r.degree)
	case impl.KNeg:
		return jet{}.plus(-1, kids[0])
	}
	if kids[1][exponents{}] == 0 {
		panic(int64(impl.ErrZero))
	}
	return kids[0].over(kids[1], r.degree)
}

// jetsOf are the polynomials of all outputs of a function, and OK.
func jetsOf(p impl.Program, f int64, args []jet, degree int64) ([]jet, int64) {
	beginsWithZero := func(a jet) bool { return a[exponents{}] == 0 }
	return reckonedWith(&reckoner[jet]{p: p, number: constantJet, isZero: beginsWithZero, reckon: jetReckoning{degree}.arithmetic}, f, args)
}

// jetsAt are the polynomials of all outputs of a function of at most three
// params, as functions of what is added to args.
func jetsAt(p impl.Program, f int64, args []int64, degree int64) ([]jet, int64) {
	var list []jet
	for k, arg := range args {
		list = append(list, constantJet(arg).plus(1, jet{unitOf(k): 1}))
	}
	return jetsOf(p, f, list, degree)
}

func unitOf(variable int) exponents {
	var x exponents
	x[variable] = 1
	return x
}

// derivative is the derivative at 0 for all variables of a list.
func (a jet) derivative(list ...int64) int64 {
	var x exponents
	factor := int64(1)
	for _, variable := range list {
		x[variable]++
		factor *= x[variable]
	}
	return impl.Times(factor, a[x])
}

// along is the series of a polynomial on the line from 0 along dir.
func (a jet) along(dir []int64, order int64) []int64 {
	list := make([]int64, order+1)
	for x, number := range a {
		for k := range dir {
			number = impl.Times(number, impl.Power(dir[k], x[k]))
		}
		if x.total() <= order {
			list[x.total()] = impl.Plus(list[x.total()], number)
		}
	}
	return list
}

// polynomial makes an expression without divisions and conditions, with at most
// a degree and so many levels.
func (v *invention) polynomial(vars, degree int64, depth int) impl.Expr {
	if depth == 0 || v.Intn(8) == 0 {
		if degree > 0 && vars > 0 && v.Intn(4) > 0 {
			return variable(v.Int63n(vars))
		}
		return num(v.numbers(1)[0])
	}
	first := v.Int63n(degree + 1)
	switch v.Intn(4) {
	case 0:
		return tree(impl.KAdd, v.polynomial(vars, degree, depth-1), v.polynomial(vars, degree, depth-1))
	case 1:
		return tree(impl.KSub, v.polynomial(vars, degree, depth-1), tree(impl.KNeg, v.polynomial(vars, degree, depth-1)))
	}
	return tree(impl.KMul, v.polynomial(vars, first, depth-1), v.polynomial(vars, degree-first, depth-1))
}

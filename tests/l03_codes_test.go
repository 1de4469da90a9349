package tests

import (
	"slices"
	"strings"
	"testing"

	"loop.example/g01091/impl"
)

// TestP5P6LimitOfSteps has the steps of an evaluation with numbers for all ways.
func TestP5P6LimitOfSteps(t *testing.T) {
	for _, c := range []struct {
		first string
		steps int
		last  string
		arg   int64
		want  int64
	}{
		{"", 3000, "", 0, impl.OK}, {"", 3001, "", 0, impl.ErrBudget}, {"", 2999, " | x0", 0, impl.OK}, {"", 3000, " | x0", 0, impl.ErrBudget},
		{"", 2998, " | neg(x0)", 0, impl.OK}, {"", 2999, " | neg(x0)", 0, impl.ErrBudget}, {"", 2997, " | if(x0; x0; 1)", 0, impl.OK}, {"", 2998, " | if(x0; x0; 1)", 0, impl.ErrBudget},
		{"", 2997, " | let(x0; x1)", 0, impl.OK}, {"", 2998, " | let(x0; x1)", 0, impl.ErrBudget}, {"", 2998, " | h.0^0(x0)", 0, impl.OK}, {"", 2999, " | h.0^0(x0)", 0, impl.ErrBudget},
		{"", 2997, " | (1 / x0)", 1, impl.OK}, {"", 2997, " | (1 / x0)", 0, impl.ErrZero}, {"", 2998, " | (1 / x0)", 0, impl.ErrBudget}, {"", 3000, " | (1 / x0)", 1, impl.ErrBudget},
		{"(1 / x0) | ", 3100, "", 0, impl.ErrZero}, {"(1 / x0) | ", 2997, "", 1, impl.OK}, {"(1 / x0) | ", 2998, "", 1, impl.ErrBudget},
	} {
		expectCodes(t, questionAt(budget(t, c.first, c.steps, c.last), 1, []int64{c.arg}), c.want)
	}
}

// TestP5P6DivisorsThatBeginWithZero have other coefficients that are not 0.
func TestP5P6DivisorsThatBeginWithZero(t *testing.T) {
	p := reading(t, "f 1: (1 / x0) | 2\ng 1: (x0 / x0)\nh 1: if(x0; (x0 / x0); 1)\nk 1: if((1 - x0); 3; (x0 / (x0 - 1)))\nm 1: (0 / (x0 * x0))\n")
	for f := range int64(5) {
		want := int64(impl.ErrZero)
		if f == 3 {
			want = impl.OK
		}
		expectCodes(t, questionAt(p, f, []int64{0}), want)
	}
	expectCodes(t, questionAt(p, 3, []int64{1}), impl.OK)
	for f := range int64(5) {
		expectCodes(t, questionAt(p, f, []int64{2}), impl.OK)
	}
	for order := range impl.MaxOrder + 1 {
		for _, list := range [][]int64{beginning(constant(order, 7), 0), make([]int64, order+1)} {
			expectCode(t, forwardFunctions()[0], question{p: p, path: [][]int64{list}}, impl.ErrZero)
		}
		one := append([]int64{1}, make([]int64, order)...)
		sameRows(t, "a condition", fineRows(t)(impl.EvaluateSeries(p, 3, [][]int64{beginning(constant(order, 7), 1)})), [][]int64{append([]int64{3}, make([]int64, order)...)})
		sameRows(t, "a quotient", fineRows(t)(impl.EvaluateSeries(p, 1, [][]int64{constant(order, 7)})), [][]int64{one})
	}
}

// rangeFaults are copies of a question that are wrong in just one argument.
func rangeFaults(q question, argument string) []question {
	params, outs := int64(0), int64(0)
	if q.f >= 0 && q.f < int64(len(q.p.Funcs)) {
		params, outs = q.p.Funcs[q.f].Params, int64(len(q.p.Funcs[q.f].Outs))
	}
	var list []question
	add := func(change func(q *question)) {
		other := q
		change(&other)
		list = append(list, other)
	}
	numbers := faultyNumbers(params)
	switch argument {
	case "args":
		for _, faulty := range numbers {
			add(func(q *question) { q.args = faulty })
		}
	case "dir":
		for _, faulty := range numbers {
			add(func(q *question) { q.dir = faulty })
		}
	case "path":
		for _, faulty := range faultyPaths(params) {
			add(func(q *question) { q.path = faulty })
		}
	case "pick":
		for _, faulty := range outside(outs) {
			add(func(q *question) { q.pick = faulty })
		}
	case "param":
		for _, faulty := range outside(params) {
			add(func(q *question) { q.param = faulty })
		}
	case "params":
		add(func(q *question) { q.params = make([]int64, 5) })
		add(func(q *question) { q.params = make([]int64, 1000) })
		for _, faulty := range outside(params) {
			for _, params := range [][]int64{{faulty}, {0, faulty}, {faulty, 0, 0, 0}, {0, 0, 0, faulty}, {0, 0, faulty, 0, 0}} {
				add(func(q *question) { q.params = params })
			}
		}
	case "order":
		for _, faulty := range outside(impl.MaxOrder + 1) {
			add(func(q *question) { q.order = faulty })
		}
	case "count":
		for _, faulty := range outside(impl.MaxOrder + 1) {
			add(func(q *question) { q.count = faulty })
		}
	}
	return list
}

// faultyNumbers are lists that are not so many numbers.
func faultyNumbers(count int64) [][]int64 {
	lists := [][]int64{make([]int64, count+1), make([]int64, count+100)}
	if count > 0 {
		lists = append(lists, nil, []int64{}, make([]int64, count-1))
	}
	for k := range count {
		for _, faulty := range outside(impl.P) {
			lists = append(lists, slices.Concat(make([]int64, k), []int64{faulty}, make([]int64, count-k-1)))
		}
	}
	return lists
}

// faultyPaths are lists that are not so many series of one order.
func faultyPaths(count int64) [][][]int64 {
	same := func(count int64, list []int64) [][]int64 { return slices.Repeat([][]int64{list}, int(count)) }
	lists := [][][]int64{same(count+1, []int64{1, 2}), same(count+100, []int64{1, 2})}
	if count > 0 {
		lists = append(lists, nil, [][]int64{}, same(count-1, []int64{1, 2}))
	}
	for k := range count {
		for _, faulty := range append(noSeries(), []int64{1}, []int64{1, 2, 3}, constant(impl.MaxOrder, 1)) {
			if count == 1 && impl.ValidSeries(faulty) {
				continue
			}
			lists = append(lists, slices.Concat(same(k, []int64{1, 2}), [][]int64{faulty}, same(count-k-1, []int64{1, 2})))
		}
	}
	return lists
}

// TestP5P6RangeErrors come ahead of divisions by 0 and of the limit of the steps.
func TestP5P6RangeErrors(t *testing.T) {
	plain := reading(t, "f 1: x0 | 1\ng 2: x0 | (x0 * x1) | 7\nh 3: x2\n")
	zero := reading(t, "f 1: (1 / x0) | 1\ng 2: x0 | (x0 / 0) | 7\nh 3: (1 / 0)\n")
	steps := budget(t, "", 3001, "")
	steps.Funcs = append(steps.Funcs, function("g", 2, calling(1, 0, num(1)), calling(1, 1, num(1))), function("k", 3, calling(1, 0, num(1)), calling(1, 1, num(1))))
	for _, c := range []struct {
		p    impl.Program
		from int64
		code int64
	}{{plain, 0, impl.OK}, {zero, 0, impl.ErrZero}, {steps, 1, impl.ErrBudget}} {
		for f := c.from; f < c.from+3; f++ {
			q := questionAt(c.p, f, make([]int64, f-c.from+1))
			expectCodes(t, q, c.code)
			for _, function := range forwardFunctions() {
				for _, argument := range function.uses {
					for _, faulty := range rangeFaults(q, argument) {
						expectCode(t, function, faulty, impl.ErrRange)
					}
				}
				for _, index := range outside(int64(len(c.p.Funcs))) {
					other := q
					other.f = index
					expectCode(t, function, other, impl.ErrRange)
				}
			}
		}
	}
}

// TestP5P6InvalidProgramsComeFirst, ahead of all that is wrong with the arguments.
func TestP5P6InvalidProgramsComeFirst(t *testing.T) {
	valid := reading(t, "f 1: (1 / 0)\n")
	for _, p := range []impl.Program{
		program(function("f", 1)), program(function("F", 1, variable(0))), program(function("f", 1, variable(1))), program(function("f", 13, num(1))),
		program(function("f", 1, num(impl.P))), program(function("f", 1, calling(0, 0, num(1)))), program(valid.Funcs[0], valid.Funcs[0]), program(function("f", 1, nested(61))),
	} {
		q := questionAt(p, 0, []int64{1})
		for _, f := range forwardFunctions() {
			expectCode(t, f, q, impl.ErrInvalid)
			expectCode(t, f, question{p: p, f: -1, pick: -1, param: -1, order: -1, count: -1, args: []int64{-1}, params: []int64{-1}}, impl.ErrInvalid)
			for _, argument := range f.uses {
				for _, faulty := range rangeFaults(q, argument) {
					expectCode(t, f, faulty, impl.ErrInvalid)
				}
			}
		}
	}
	for _, f := range forwardFunctions() {
		expectCode(t, f, question{}, impl.ErrRange)
		expectCode(t, f, questionAt(impl.Program{}, 0, []int64{1}), impl.ErrRange)
	}
}

// TestP5P6LimitsMayBeReached has the greatest orders, counts and lists.
func TestP5P6LimitsMayBeReached(t *testing.T) {
	p := reading(t, "f 1: (x0 * x0)\n")
	for _, n := range []int64{0, 1, impl.MaxOrder} {
		q := questionAt(p, 0, []int64{impl.P - 1})
		q.order, q.count, q.params, q.path = n, n, make([]int64, min(n, 4)), [][]int64{constant(int(n), impl.P-1)}
		expectCodes(t, q, impl.OK)
	}
	square := reading(t, "f 2: "+strings.Repeat("(x0 * ", 3)+"x1"+strings.Repeat(")", 3)+"\n")
	sameNumber(t, "four params", fineNumber(t)(impl.MixedDerivative(square, 0, 0, []int64{9, 9}, []int64{0, 0, 1, 0})), 6)
	sameNumber(t, "one param four times", fineNumber(t)(impl.MixedDerivative(square, 0, 0, []int64{9, 9}, []int64{0, 0, 0, 0})), 0)
}

// TestP5P6FunctionsWithoutParams are evaluated all the same.
func TestP5P6FunctionsWithoutParams(t *testing.T) {
	p := reading(t, "f 0: 7 | (2 * 3)\ng 0: 7 | (1 / 0)\n")
	values, slopes, code := impl.Directional(p, 0, nil, nil)
	if code != impl.OK {
		t.Errorf("the code %d", code)
	}
	same(t, "values", values, []int64{7, 6})
	same(t, "slopes", slopes, []int64{0, 0})
	sameRows(t, "JacobianOf", fineRows(t)(impl.JacobianOf(p, 0, nil)), [][]int64{{}, {}})
	same(t, "GradientOf", fine(t)(impl.GradientOf(p, 0, 1, []int64{})), nil)
	sameRows(t, "HessianOf", fineRows(t)(impl.HessianOf(p, 0, 1, nil)), nil)
	same(t, "HessianTimes", fine(t)(impl.HessianTimes(p, 0, 1, nil, nil)), nil)
	sameNumber(t, "MixedDerivative", fineNumber(t)(impl.MixedDerivative(p, 0, 1, nil, nil)), 6)
	sameRows(t, "EvaluateSeries", fineRows(t)(impl.EvaluateSeries(p, 0, nil)), [][]int64{{7}, {6}})
	same(t, "PathDerivative", fine(t)(impl.PathDerivative(p, 0, 1, [][]int64{})), []int64{0})
	sameRows(t, "TaylorOf", fineRows(t)(impl.TaylorOf(p, 0, nil, nil, 0)), [][]int64{{7}, {6}})
	sameRows(t, "TaylorOf", fineRows(t)(impl.TaylorOf(p, 0, nil, nil, 2)), [][]int64{{7, 0, 0}, {6, 0, 0}})
	sameNumber(t, "HigherDerivative", fineNumber(t)(impl.HigherDerivative(p, 0, 1, nil, nil, 0)), 6)
	sameNumber(t, "HigherDerivative", fineNumber(t)(impl.HigherDerivative(p, 0, 1, nil, nil, 12)), 0)
	same(t, "SlopeAlong", fine(t)(impl.SlopeAlong(p, 0, 1, nil, nil, 3)), []int64{0, 0, 0})
	same(t, "SlopeAlong", fine(t)(impl.SlopeAlong(p, 1, 1, nil, nil, 0)), nil)
	list, code := impl.Partial(p, 0, 0, nil)
	refused(t, "Partial", list, code, impl.ErrRange)
	_, code = impl.MixedDerivative(p, 0, 0, nil, []int64{0})
	sameNumber(t, "the code of MixedDerivative", code, impl.ErrRange)
	expectCodes(t, question{p: p, f: 1, count: 1}, impl.ErrZero)
	expectCodes(t, question{p: p, f: 1, count: 1, order: 12, args: []int64{}, path: [][]int64{}}, impl.ErrZero)
	full := budget(t, "", 3001, "")
	full.Funcs = append(full.Funcs, function("k", 0, num(1), calling(1, 1, num(0)), calling(1, 0, num(0))))
	expectCodes(t, question{p: full, f: 2, count: 1}, impl.ErrBudget)
}

package tests

import (
	"fmt"
	"slices"
	"strings"
	"testing"

	"loop.example/g01091/impl"
)

// simplifying has functions that the expressions below call.
const simplifying = "g 1: (x0 + 0)\nh 2: x0 | (x1 * 1)\n"

func TestP12SimplifyByHand(t *testing.T) {
	for _, c := range []struct{ text, want, steps string }{
		{"neg(neg((x1 + (x0 * 0))))", "x1", "{8 []} {6 [1]} {0 []}"}, {"x0", "x0", ""}, {"5", "5", ""}, {"(x0 + x1)", "(x0 + x1)", ""},
		{"(x0 + 0)", "x0", "{0 []}"}, {"(0 + x0)", "x0", "{1 []}"}, {"(x0 - 0)", "x0", "{2 []}"}, {"(0 - x0)", "neg(x0)", "{3 []}"}, {"(x0 * 1)", "x0", "{4 []}"}, {"(1 * x0)", "x0", "{5 []}"}, {"(x0 * 0)", "0", "{6 []}"}, {"(0 * x0)", "0", "{7 []}"}, {"neg(neg(x0))", "x0", "{8 []}"}, {"(x0 + neg(x1))", "(x0 - x1)", "{9 []}"}, {"(x0 - neg(x1))", "(x0 + x1)", "{10 []}"}, {"(neg(x0) * neg(x1))", "(x0 * x1)", "{11 []}"}, {"(x0 - x0)", "0", "{12 []}"},
		{"((x0 * x1) + (x0 * x2))", "(x0 * (x1 + x2))", "{13 []}"}, {"((x0 * x2) + (x1 * x2))", "((x0 + x1) * x2)", "{14 []}"}, {"((x0 * x1) - (x0 * x2))", "(x0 * (x1 - x2))", "{15 []}"}, {"((x0 * x2) - (x1 * x2))", "((x0 * x2) - (x1 * x2))", ""}, {"((x0 * x1) + (x2 * x0))", "((x0 * x1) + (x2 * x0))", ""}, {"((x0 * x1) + (x0 * x1))", "(x0 * (x1 + x1))", "{13 []}"}, {"((x0 * x1) - (x0 * x1))", "0", "{12 []}"},
		{"(2 + 3)", "5", "{-1 []}"}, {"(2 - 3)", "1000002", "{-1 []}"}, {"(2 * 3)", "6", "{-1 []}"}, {"(2 / 4)", "500002", "{-1 []}"}, {"neg(2)", "1000001", "{-1 []}"}, {"neg(0)", "0", "{-1 []}"}, {"(0 + 0)", "0", "{-1 []}"}, {"(1 * 0)", "0", "{-1 []}"}, {"(0 / 7)", "0", "{-1 []}"}, {"(7 / 0)", "(7 / 0)", ""}, {"(0 / 0)", "(0 / 0)", ""}, {"(x0 / 1)", "(x0 / 1)", ""}, {"(0 / x0)", "(0 / x0)", ""}, {"(7 / (2 - 2))", "(7 / 0)", "{-1 [1]}"}, {"((3 + 4) / 0)", "(7 / 0)", "{-1 [0]}"}, {"neg(neg(3))", "3", "{8 []}"}, {"neg((x0 - x0))", "0", "{12 [0]} {-1 []}"},
		{"((2 * 3) + (1 / 0))", "(6 + (1 / 0))", "{-1 [0]}"}, {"((1 / 0) + 0)", "(1 / 0)", "{0 []}"}, {"((1 / 0) * 1)", "(1 / 0)", "{4 []}"}, {"((1 / 0) * 0)", "((1 / 0) * 0)", ""}, {"(0 * (1 / 0))", "(0 * (1 / 0))", ""}, {"((1 / 0) - (1 / 0))", "((1 / 0) - (1 / 0))", ""}, {"((1 / x0) * 0)", "((1 / x0) * 0)", ""}, {"((1 / 2) * 0)", "0", "{-1 [0]} {-1 []}"}, {"((x0 / 2) * 0)", "((x0 / 2) * 0)", ""}, {"((x0 / x0) - (x0 / x0))", "((x0 / x0) - (x0 / x0))", ""}, {"(((1 / 0) * x1) + ((1 / 0) * x2))", "((1 / 0) * (x1 + x2))", "{13 []}"}, {"((x1 * (1 / 0)) - (x1 * (1 / 0)))", "(x1 * ((1 / 0) - (1 / 0)))", "{15 []}"}, {"((1 / (x0 * 0)) * 0)", "((1 / 0) * 0)", "{6 [0 1]}"}, {"neg(neg((1 / (x0 - x0))))", "(1 / 0)", "{8 []} {12 [1]}"},
		{"(g.0(x0) * 0)", "(g.0(x0) * 0)", ""}, {"(g.0(x0) - g.0(x0))", "(g.0(x0) - g.0(x0))", ""}, {"(g.0^0(x0) * 0)", "(g.0^0(x0) * 0)", ""}, {"(g.0((x0 * 1)) * (0 + 1))", "g.0(x0)", "{4 [0 0]} {-1 [1]} {4 []}"}, {"h.1(neg(neg(x0)); (2 + 3))", "h.1(x0; 5)", "{8 [0]} {-1 [1]}"}, {"h.0^0((x0 + 0); (1 * 1))", "h.0^0(x0; 1)", "{0 [0]} {-1 [1]}"}, {"h.0^8(x0; (x1 - 0))", "h.0^8(x0; x1)", "{2 [1]}"},
		{"if(0; x0; x1)", "x0", "{-2 []}"}, {"if(1; x0; x1)", "x1", "{-2 []}"}, {"if(1000002; x0; x1)", "x1", "{-2 []}"}, {"if(0; x0; (1 / 0))", "x0", "{-2 []}"}, {"if(1; (1 / 0); x1)", "x1", "{-2 []}"}, {"if(0; (1 / 0); x1)", "(1 / 0)", "{-2 []}"}, {"if(x0; 1; 1)", "if(x0; 1; 1)", ""}, {"if((2 - 2); x0; x1)", "x0", "{-1 [0]} {-2 []}"}, {"if((x0 - x0); (x0 + 0); x1)", "x0", "{12 [0]} {-2 []} {0 []}"}, {"if((1 / 0); x0; x1)", "if((1 / 0); x0; x1)", ""}, {"if(if(0; 1; 0); x0; x1)", "x1", "{-2 [0]} {-2 []}"}, {"if(0; if(1; x0; x1); x2)", "x1", "{-2 []} {-2 []}"}, {"if(x0; if(0; x0; x1); if(2; x0; x1))", "if(x0; x0; x1)", "{-2 [1]} {-2 [2]}"}, {"if(1; if(0; x0; x1); (x2 + 0))", "x2", "{-2 []} {0 []}"}, {"(if(0; 3; x0) + if(1; x0; 4))", "7", "{-2 [0]} {-2 [1]} {-1 []}"}, {"(if(x0; 1; (1 / 0)) * 0)", "(if(x0; 1; (1 / 0)) * 0)", ""}, {"(if(0; 1; (1 / 0)) * 0)", "0", "{-2 [0]} {-1 []}"},
		{"let((x0 + 0); (x3 * 1))", "let(x0; x3)", "{0 [0]} {4 [1]}"}, {"let(1; x0)", "let(1; x0)", ""}, {"let(let((1 + 1); (x3 * 0)); let((x3 - x3); (0 + x4)))", "let(let(2; 0); let(0; x4))", "{-1 [0 0]} {6 [0 1]} {12 [1 0]} {1 [1 1]}"}, {"(let(1; x3) * 0)", "0", "{6 []}"}, {"(let((1 / 0); x3) * 0)", "(let((1 / 0); x3) * 0)", ""}, {"(let(1; x3) - let(1; x3))", "0", "{12 []}"}, {"(let(x0; (x3 * x1)) + neg(let(x1; neg(x3))))", "(let(x0; (x3 * x1)) - let(x1; neg(x3)))", "{9 []}"},
		{"((x0 + 0) + (0 + x1))", "(x0 + x1)", "{0 [0]} {1 [1]}"}, {"(((x0 + 0) + 0) + 0)", "x0", "{0 []} {0 []} {0 []}"}, {"((0 * x1) + (x0 * 0))", "0", "{7 [0]} {1 []} {6 []}"}, {"((x0 * x1) + (x0 * neg(x1)))", "0", "{13 []} {9 [1]} {12 [1]} {6 []}"}, {"(neg(neg(x0)) * neg(x1))", "(neg(x0) * x1)", "{11 []}"}, {"(neg(0) + x0)", "x0", "{-1 [0]} {1 []}"}, {"(x0 + neg(neg(x1)))", "(x0 + x1)", "{9 []} {10 []}"}, {"((0 - x0) * (0 - x1))", "(x0 * x1)", "{3 [0]} {3 [1]} {11 []}"}, {"((3 * x0) + (4 * x0))", "(7 * x0)", "{14 []} {-1 [0]}"}, {"((1 * 2) + ((x0 * 0) + 3))", "5", "{-1 [0]} {6 [1 0]} {-1 [1]} {-1 []}"},
	} {
		p := reading(t, simplifying)
		e := expression(t, p, c.text, 3)
		have, steps, code := impl.SimplifyExpr(p, e, 3, 2)
		if text := impl.ExprText(p, have, 3, 2); text != c.want || code != impl.OK || stepsText(steps) != c.steps {
			t.Errorf("%s becomes %s by %s with the code %d, want %s by %s", c.text, text, stepsText(steps), code, c.want, c.steps)
		}
		checkSimple(t, p, e, 3)
	}
}

// stepsText is how steps look.
func stepsText(steps []impl.Step) string {
	return strings.TrimSuffix(strings.TrimPrefix(fmt.Sprint(steps), "["), "]")
}

// checkSimple compares SimplifyExpr with another way to the same, and checks the
// steps, also the first ones and the other ones apart.
func checkSimple(t *testing.T, p impl.Program, e impl.Expr, vars int64) (impl.Expr, []impl.Step) {
	t.Helper()
	funcs := int64(len(p.Funcs))
	have, steps, code := impl.SimplifyExpr(p, e, vars, funcs)
	want, all := simplifiedSlowly(e)
	if code != impl.OK || stepsText(steps) != stepsText(all) || !impl.ValidExpr(p, have, vars, funcs) {
		t.Errorf("%s is simplified with the code %d by %s, want %s", textOf(p, e), code, stepsText(steps), stepsText(all))
	}
	sameExprs(t, textOf(p, e), have, want)
	if impl.ExprSize(have)+int64(len(steps)) > impl.ExprSize(e) || impl.ExprDepth(have) > impl.ExprDepth(e) {
		t.Errorf("%s becomes %s by %d steps", textOf(p, e), textOf(p, have), len(steps))
	}
	rules := impl.StandardRules()
	for _, k := range []int{0, len(steps) / 2, len(steps)} {
		middle := checkedSteps(t, p, e, vars, rules, steps[:k])
		sameExprs(t, "by steps", checkedSteps(t, p, middle, vars, rules, steps[k:]), have)
	}
	again, none, _ := impl.SimplifyExpr(p, have, vars, funcs)
	if !impl.SameExpr(again, have) || len(none) > 0 {
		t.Errorf("%s is simplified again to %s", textOf(p, have), textOf(p, again))
	}
	return have, steps
}

// checkedSteps is what all of some steps come to.
func checkedSteps(t *testing.T, p impl.Program, e impl.Expr, vars int64, rules []impl.Rule, steps []impl.Step) impl.Expr {
	t.Helper()
	have, count, code := impl.CheckSteps(p, e, vars, int64(len(p.Funcs)), rules, steps)
	if code != impl.OK || count != int64(len(steps)) {
		t.Errorf("%d of the steps %s of %s with the code %d", count, stepsText(steps), brief(e), code)
	}
	return have
}

// simplifiedSlowly is what SimplifyExpr has to return.
func simplifiedSlowly(e impl.Expr) (impl.Expr, []impl.Step) {
	var steps []impl.Step
	for {
		next, step, ok := stepSlowly(e)
		if !ok {
			return e, steps
		}
		e, steps = next, append(steps, step)
	}
}

// stepSlowly does the first step that is possible in an expression.
func stepSlowly(e impl.Expr) (impl.Expr, impl.Step, bool) {
	for rule := int64(-1); rule < 17; rule++ {
		// FoldStep comes first, then BranchStep, and then the rules.
		number := []int64{impl.FoldStep, impl.BranchStep}[min(rule+1, 1)]
		if rule > 0 {
			number = rule - 1
		}
		if result, ok := applied(number, e); ok {
			return result, impl.Step{Rule: number}, true
		}
	}
	for k, kid := range e.Kids {
		if result, step, ok := stepSlowly(kid); ok {
			step.Path = append([]int64{int64(k)}, step.Path...)
			return putAt(e, []int64{int64(k)}, result), step, true
		}
	}
	return impl.Expr{}, impl.Step{}, false
}

// applied is the result of a step at the root of an expression, if it is possible.
func applied(number int64, e impl.Expr) (impl.Expr, bool) {
	is := func(e impl.Expr, kind int64) bool { return e.Kind == kind }
	isNum := func(e impl.Expr, number int64) bool { return impl.SameExpr(e, num(number)) }
	total := func(e impl.Expr) bool {
		return !strings.Contains(fmt.Sprint(kindsIn(e)), "l") && !strings.Contains(fmt.Sprint(kindsIn(e)), "d")
	}
	if number == impl.FoldStep {
		return foldedAt(e)
	}
	if len(e.Kids) == 0 {
		return e, false
	}
	a, b := e.Kids[0], e.Kids[len(e.Kids)-1]
	products := len(e.Kids) == 2 && is(a, impl.KMul) && is(b, impl.KMul)
	switch number {
	case impl.BranchStep:
		if is(e, impl.KIf) && is(a, impl.KNum) {
			if a.Num == 0 {
				return e.Kids[1], true
			}
			return e.Kids[2], true
		}
	case 0:
		return a, is(e, impl.KAdd) && isNum(b, 0)
	case 1:
		return b, is(e, impl.KAdd) && isNum(a, 0)
	case 2:
		return a, is(e, impl.KSub) && isNum(b, 0)
	case 3:
		return tree(impl.KNeg, b), is(e, impl.KSub) && isNum(a, 0)
	case 4:
		return a, is(e, impl.KMul) && isNum(b, 1)
	case 5:
		return b, is(e, impl.KMul) && isNum(a, 1)
	case 6:
		return num(0), is(e, impl.KMul) && isNum(b, 0) && total(a)
	case 7:
		return num(0), is(e, impl.KMul) && isNum(a, 0) && total(b)
	case 8:
		if is(e, impl.KNeg) && is(a, impl.KNeg) {
			return a.Kids[0], true
		}
	case 9, 10:
		if is(b, impl.KNeg) {
			return tree(impl.KSub-number+9, a, b.Kids[0]), is(e, impl.KAdd+number-9)
		}
	case 11:
		if is(a, impl.KNeg) && is(b, impl.KNeg) {
			return tree(impl.KMul, a.Kids[0], b.Kids[0]), is(e, impl.KMul)
		}
	case 12:
		return num(0), is(e, impl.KSub) && impl.SameExpr(a, b) && total(a)
	case 13, 15:
		kind := []int64{impl.KAdd, impl.KSub}[(number-13)/2]
		if products && is(e, kind) {
			return tree(impl.KMul, a.Kids[0], tree(kind, a.Kids[1], b.Kids[1])), impl.SameExpr(a.Kids[0], b.Kids[0])
		}
	case 14:
		if products && is(e, impl.KAdd) {
			return tree(impl.KMul, tree(impl.KAdd, a.Kids[0], b.Kids[0]), a.Kids[1]), impl.SameExpr(a.Kids[1], b.Kids[1])
		}
	}
	return e, false
}

// foldedAt is the number that is the value of an operation with numbers.
func foldedAt(e impl.Expr) (impl.Expr, bool) {
	var values []int64
	for _, kid := range e.Kids {
		if kid.Kind == impl.KNum {
			values = append(values, kid.Num)
		}
	}
	if e.Kind < impl.KAdd || e.Kind > impl.KNeg || len(values) < len(e.Kids) || e.Kind == impl.KDiv && values[1] == 0 {
		return e, false
	}
	return num(arithmetic(e.Kind, values)), true
}

// redundant makes an expression in which many steps are possible.
func (v *invention) redundant(vars int64, depth int) impl.Expr {
	if depth <= 1 {
		return v.expr(vars, 1)
	}
	rules := impl.StandardRules()
	switch k := v.Intn(2 * len(rules)); {
	case k < len(rules):
		var values []impl.Expr
		for range rules[k].Vars {
			values = append(values, v.redundant(vars, depth-2))
		}
		return filled(rules[k].Left, values)
	case k < len(rules)+4:
		return tree(impl.KIf, v.redundant(vars, depth-2), v.redundant(vars, depth-1), v.redundant(vars, depth-1))
	case k < len(rules)+7:
		return let(v.redundant(vars, depth-1), v.redundant(vars+1, depth-1))
	case k < len(rules)+9 && len(v.p.Funcs) > 0:
		e := v.calling(impl.KLoop, vars, 2)
		for i := range e.Kids {
			e.Kids[i] = v.redundant(vars, depth-2)
		}
		return e
	}
	kind := []int64{impl.KAdd, impl.KSub, impl.KMul, impl.KDiv}[v.Intn(4)]
	return tree(kind, v.redundant(vars, depth-1), v.redundant(vars, depth-1))
}

// redundantPrograms calls a test with many programs in which many steps are
// possible.
func redundantPrograms(count int, check func(v *invention, p impl.Program)) {
	for seed := range int64(count) {
		v := inventions(seed + 12000)
		p := v.program(v.Intn(3))
		for k := range 3 {
			params := v.Int63n(4)
			f := function([]string{"d", "e", "d12"}[k], params)
			for range 1 + v.Intn(3) {
				v.nodes = 300
				f.Outs = append(f.Outs, v.redundant(params, 4))
			}
			if q := program(append(slices.Clone(p.Funcs), f)...); impl.ValidProgram(q) {
				p = q
			}
			v.p = p
		}
		check(v, p)
	}
}

// TestP12ManyPrograms compares with another way to the same, and values and
// derivatives before and behind.
func TestP12ManyPrograms(t *testing.T) {
	counts, used := map[string]int{}, map[int64]int{}
	redundantPrograms(400, func(v *invention, p impl.Program) {
		simple := fineProgram(t)(impl.SimplifyProgram(p))
		for f, function := range p.Funcs {
			before := program(p.Funcs[:f]...)
			if simple.Funcs[f].Name != function.Name || simple.Funcs[f].Params != function.Params || len(simple.Funcs[f].Outs) != len(function.Outs) {
				t.Fatalf("the function %s becomes %s", function.Name, simple.Funcs[f].Name)
			}
			for k, out := range function.Outs {
				e, steps := checkSimple(t, before, out, function.Params)
				for _, step := range steps {
					used[step.Rule]++
				}
				sameExprs(t, "an output", simple.Funcs[f].Outs[k], e)
				checkSameFunction(t, v, counts, withOut(before, out, function.Params), withOut(before, e, function.Params))
			}
			checkFewerSteps(t, p, simple, int64(f), v.numbers(function.Params))
			checkSameFunction(t, v, counts, program(p.Funcs[:f+1]...), program(simple.Funcs[:f+1]...))
		}
	})
	for rule := int64(impl.BranchStep); rule < 16; rule++ {
		if used[rule] < 50 {
			t.Errorf("so often there are steps with rules: %v", used)
		}
	}
	if counts["same"] < 2000 || counts["zero"] < 1000 {
		t.Errorf("so often: %v", counts)
	}
}

func checkFewerSteps(t *testing.T, p, simple impl.Program, f int64, args []int64) {
	t.Helper()
	_, steps, code := impl.Evaluate(p, f, args)
	_, fewer, again := impl.Evaluate(simple, f, args)
	if code == impl.OK && (again != impl.OK || fewer > steps) {
		t.Errorf("%d steps, and then %d with the code %d", steps, fewer, again)
	}
	if code == impl.ErrZero && again != impl.ErrZero {
		t.Errorf("the code %d where a divisor is 0", again)
	}
}

// TestP12ManyExpressions has expressions of few levels.
func TestP12ManyExpressions(t *testing.T) {
	for seed := range int64(1500) {
		v := inventions(seed + 30000)
		p := v.program(2)
		v.nodes = 100
		vars := v.Int63n(3)
		if e := v.redundant(vars, 2+v.Intn(4)); impl.ValidExpr(p, e, vars, 2) {
			checkSimple(t, p, e, vars)
		}
	}
}

// TestP12SimplifyErrors has invalid expressions and programs.
func TestP12SimplifyErrors(t *testing.T) {
	p, invalid := reading(t, "g 1: (1 / x0)\n"), program(function("g", 1))
	e := calling(0, 0, num(1))
	for _, q := range []symbolicQuestion{
		{p: invalid, e: num(1)}, {p: p, e: e}, {p: p, e: e, funcs: 2}, {p: p, e: e, funcs: -1}, {p: p, e: e, funcs: 1, vars: -1}, {p: p, e: e, funcs: 1, vars: 413}, {p: p, e: variable(2), vars: 2}, {p: p}, {p: p, e: nested(61)}, {p: p, e: flat(401)}, {p: p, e: num(impl.P)}, {p: p, e: tree(impl.KIf, num(0))}, {p: p, e: doubled(impl.KAdd, 100)},
	} {
		expectSymbolicCode(t, "SimplifyExpr", q, impl.ErrInvalid)
		expectSymbolicCode(t, "CheckSteps", q, impl.ErrInvalid)
	}
	for _, q := range []symbolicQuestion{{p: p, e: e, funcs: 1}, {p: p, e: e, funcs: 1, vars: 412}, {p: p, e: nested(60)}, {p: p, e: flat(400)}} {
		expectSymbolicCode(t, "SimplifyExpr", q, impl.OK)
		expectSymbolicCode(t, "CheckSteps", q, impl.OK)
	}
	for _, q := range []impl.Program{invalid, program(function("F", 0, num(1))), program(function("f", 0)), program(p.Funcs[0], p.Funcs[0]), program(function("f", 13, num(1)))} {
		expectSymbolicCode(t, "SimplifyProgram", symbolicQuestion{p: q}, impl.ErrInvalid)
	}
	if q := fineProgram(t)(impl.SimplifyProgram(impl.Program{})); len(q.Funcs) > 0 {
		t.Error("a program without functions")
	}
	q := fineProgram(t)(impl.SimplifyProgram(reading(t, "f 1: (x0 + 0) | (x0 * 1)\ng 0: (1 + 1)\nh 1: f.0((x0 - 0)) | g.0() | (1 / g.0())\n")))
	if text := impl.ProgramText(q); text != "f 1: x0 | x0\ng 0: 2\nh 1: f.0(x0) | g.0() | (1 / g.0())\n" {
		t.Errorf("have %q", text)
	}
}

// TestP12FoldAndBranchSteps has steps that no rule makes.
func TestP12FoldAndBranchSteps(t *testing.T) {
	p := reading(t, simplifying)
	for _, c := range []struct {
		text, path, fold, branch string
	}{
		{"(2 + 3)", "", "5", ""}, {"(2 - 3)", "", "1000002", ""}, {"(2 * 3)", "", "6", ""}, {"(2 / 3)", "", "333335", ""}, {"neg(3)", "", "1000000", ""}, {"(2 / 0)", "", "", ""}, {"(0 / 0)", "", "", ""}, {"(0 / 2)", "", "0", ""}, {"5", "", "", ""}, {"x0", "", "", ""}, {"(x0 + 1)", "", "", ""}, {"(1 + x0)", "", "", ""}, {"neg(x0)", "", "", ""}, {"let(1; 2)", "", "", ""}, {"g.0(1)", "", "", ""}, {"h.0^0(1; 2)", "", "", ""}, {"(neg(1) + 2)", "", "", ""}, {"(neg(1) + 2)", "0", "(1000002 + 2)", ""}, {"let(x0; (1 + 1))", "1", "let(x0; 2)", ""}, {"g.0((1 / 2))", "0", "g.0(500002)", ""}, {"(1 / (0 / 0))", "1", "", ""}, {"(1 / (0 / 0))", "", "", ""},
		{"if(0; x0; x1)", "", "", "x0"}, {"if(5; x0; x1)", "", "", "x1"}, {"if(x0; 1; 2)", "", "", ""}, {"if(0; 1; 2)", "", "", "1"}, {"if((0 + 0); 1; 2)", "", "", ""}, {"if((0 + 0); 1; 2)", "0", "if(0; 1; 2)", ""}, {"if(x0; if(3; 1; 2); 2)", "1", "", "if(x0; 2; 2)"}, {"if(0; if(0; x0; x1); 2)", "", "", "if(0; x0; x1)"}, {"if(0; if(0; x0; x1); 2)", "1", "", "if(0; x0; 2)"}, {"let(0; if(x2; 1; 2))", "1", "", ""}, {"let(x0; if(1; 1; x2))", "1", "", "let(x0; x2)"},
	} {
		for rule, want := range map[int64]string{impl.FoldStep: c.fold, impl.BranchStep: c.branch} {
			q := symbolicQuestion{p: p, e: expression(t, p, c.text, 2), vars: 2, funcs: 2, steps: []impl.Step{{Rule: rule, Path: pathOf(c.path)}}}
			code := int64(impl.OK)
			if want == "" {
				code = impl.ErrNotFound
			}
			expectSymbolicCodeBeside(t, q, code, 0)
			e, _, code := impl.CheckSteps(p, q.e, 2, 2, nil, q.steps)
			if code == impl.OK && impl.ExprText(p, e, 2, 2) != want {
				t.Errorf("%s becomes %s by a step with the rule %d", c.text, impl.ExprText(p, e, 2, 2), rule)
			}
		}
	}
}

// expectSymbolicCodeBeside expects a code of CheckSteps and, for an error, the number
// of the steps that have been done.
func expectSymbolicCodeBeside(t *testing.T, q symbolicQuestion, want, done int64) {
	t.Helper()
	e, count, code := impl.CheckSteps(q.p, q.e, q.vars, q.funcs, q.rules, q.steps)
	if code == impl.OK {
		done = int64(len(q.steps))
	} else if !impl.SameExpr(e, impl.Expr{}) {
		t.Errorf("%s beside the code %d", brief(e), code)
	}
	if code != want || count != done {
		t.Errorf("%d of the steps %s with the code %d, want %d with the code %d", count, brief(stepsText(q.steps)), code, done, want)
	}
}

// TestP12FaultySteps has one step that fails, at the first, at a middle and at the
// last place.
func TestP12FaultySteps(t *testing.T) {
	p := reading(t, simplifying)
	rules := append(impl.StandardRules(), rule(t, 1, "(x0 + 7)", "x0"), rule(t, 2, "(x0 + x1)", "(x1 + x0)"), rule(t, 1, "(x0 + 8)", "(8 + ("+strings.Repeat("(", 15)+"x0"+strings.Repeat(" + 0)", 15)+" + 0))"))
	swap := impl.Step{Rule: 17}
	e := tree(impl.KAdd, tree(impl.KAdd, flat(365), num(8)), tree(impl.KMul, num(0), calling(0, 0, num(1))))
	for _, c := range []struct {
		name string
		step impl.Step
		want int64
	}{
		{"no such rule", impl.Step{Rule: 19}, impl.ErrRange}, {"a negative rule", impl.Step{Rule: -3}, impl.ErrRange}, {"a huge rule", impl.Step{Rule: 1 << 62}, impl.ErrRange}, {"a most negative rule", impl.Step{Rule: -1 << 63}, impl.ErrRange}, {"no such rule and no such path", impl.Step{Rule: 19, Path: []int64{5}}, impl.ErrRange},
		{"a path to no kid", impl.Step{Rule: 17, Path: []int64{2}}, impl.ErrRange}, {"a path beyond a leaf", impl.Step{Rule: 17, Path: []int64{0, 0, 0, 0, 0, 0, 0, 0, 0, 0, 0, 0, 0, 0, 0}}, impl.ErrRange}, {"a negative path", impl.Step{Rule: 17, Path: []int64{-1}}, impl.ErrRange}, {"a path to no kid for a number", impl.Step{Rule: impl.FoldStep, Path: []int64{2}}, impl.ErrRange}, {"a path to no kid for a branch", impl.Step{Rule: impl.BranchStep, Path: []int64{-2}}, impl.ErrRange}, {"a path to no kid for a rule that is not sound", impl.Step{Rule: 16, Path: []int64{2}}, impl.ErrRange},
		{"nothing to fold", impl.Step{Rule: impl.FoldStep}, impl.ErrNotFound}, {"no branch", impl.Step{Rule: impl.BranchStep}, impl.ErrNotFound}, {"a rule that is not sound", impl.Step{Rule: 16}, impl.ErrProof}, {"a rule that does not fit", impl.Step{Rule: 12}, impl.ErrNotFound}, {"0 times a call", impl.Step{Rule: 7, Path: []int64{1}}, impl.ErrState}, {"0 times a call at the other place", impl.Step{Rule: 7, Path: []int64{0}}, impl.ErrState}, {"a call times 0", impl.Step{Rule: 6, Path: []int64{1}}, impl.ErrNotFound},
	} {
		for _, count := range []int{1, 2, 5, 399, 400} {
			for _, place := range []int{0, count / 2, count - 1} {
				q := symbolicQuestion{p: p, e: e, funcs: 2, rules: rules, steps: slices.Repeat([]impl.Step{swap}, count)}
				q.steps[place] = c.step
				want := c.want
				if k := len(c.step.Path); c.step.Rule == 7 && k == 1 && (c.step.Path[0] == 1) != (place%2 == 0) {
					want = impl.ErrNotFound // the kids have been exchanged
				}
				expectSymbolicCodeBeside(t, q, want, int64(place))
			}
		}
	}
	large := impl.Step{Rule: 18, Path: []int64{0}}
	for _, steps := range [][]impl.Step{{large}, {swap, swap, large}, {swap, swap, large, swap}} {
		q := symbolicQuestion{p: p, e: e, funcs: 2, rules: rules, steps: steps}
		expectSymbolicCodeBeside(t, q, impl.ErrLimit, int64(slices.IndexFunc(steps, func(s impl.Step) bool { return s.Rule == 18 })))
	}
}

// TestP12LimitsOfSteps has most rules and steps, and one more of each.
func TestP12LimitsOfSteps(t *testing.T) {
	swap := rule(t, 2, "(x0 + x1)", "(x1 + x0)")
	e := tree(impl.KAdd, num(1), num(2))
	rules := slices.Repeat([]impl.Rule{rule(t, 1, "(x0 - x0)", "0")}, impl.MaxRules)
	rules[impl.MaxRules-1] = swap
	last := impl.Step{Rule: impl.MaxRules - 1}
	for _, count := range []int{0, 1, 2, 399, 400} {
		q := symbolicQuestion{e: e, rules: rules, steps: slices.Repeat([]impl.Step{last}, count)}
		expectSymbolicCodeBeside(t, q, impl.OK, 0)
		want := e
		if count%2 == 1 {
			want = tree(impl.KAdd, num(2), num(1))
		}
		sameExprs(t, "exchanged kids", checkedSteps(t, q.p, e, 0, rules, q.steps), want)
	}
	unsound := append(slices.Clone(rules[1:]), rule(t, 1, "neg(x0)", "x0"))
	many, more := slices.Repeat([]impl.Step{last}, 401), append(slices.Clone(rules), swap)
	for _, c := range []struct {
		q    symbolicQuestion
		want int64
	}{
		{symbolicQuestion{e: e, rules: rules, steps: many}, impl.ErrRange}, {symbolicQuestion{e: e, rules: rules, steps: make([]impl.Step, 1<<20)}, impl.ErrRange}, {symbolicQuestion{e: e, rules: more, steps: many[:1]}, impl.ErrInvalid}, {symbolicQuestion{e: e, rules: more, steps: many}, impl.ErrInvalid}, {symbolicQuestion{e: e, rules: make([]impl.Rule, 1<<20)}, impl.ErrInvalid},
		{symbolicQuestion{e: e, rules: unsound, steps: []impl.Step{{Rule: 28}}}, impl.OK}, {symbolicQuestion{e: e, rules: unsound}, impl.OK}, {symbolicQuestion{e: e, steps: []impl.Step{{}}}, impl.ErrRange}, {symbolicQuestion{e: e, steps: []impl.Step{{Rule: impl.FoldStep}}}, impl.OK}, {symbolicQuestion{e: variable(0), rules: rules, steps: many}, impl.ErrInvalid}, {symbolicQuestion{p: program(function("f", 1)), e: e, rules: rules, steps: many}, impl.ErrInvalid},
	} {
		expectSymbolicCodeBeside(t, c.q, c.want, 0)
	}
}

// TestP12ManyStepsAreNeeded has an expression of 398 nodes, of which most steps take
// off just one.
func TestP12ManyStepsAreNeeded(t *testing.T) {
	list := slices.Repeat([]impl.Expr{tree(impl.KNeg, num(1))}, 133)
	for len(list) > 1 {
		list = append(list[2:], tree(impl.KAdd, list[0], list[1]))
	}
	have, steps := checkSimple(t, impl.Program{}, list[0], 0)
	sameExprs(t, "133 times -1", have, num(impl.P-133))
	if len(steps) < 250 {
		t.Errorf("%d steps", len(steps))
	}
	chain := variable(0)
	for range 29 {
		chain = tree(impl.KNeg, tree(impl.KAdd, chain, num(0)))
	}
	have, steps = checkSimple(t, impl.Program{}, chain, 1)
	if textOf(impl.Program{}, have) != "neg(x0)" || len(steps) != 29+14 {
		t.Errorf("%s by %d steps", textOf(impl.Program{}, have), len(steps))
	}
}

package tests

import (
	"fmt"
	"slices"
	"strings"
	"testing"

	"loop.example/g01091/impl"
)

func (q *symbolicQuestion) lists() []any {
	return []any{q.p, q.e, q.a, q.b, q.args, q.path, q.r, q.rules, q.steps}
}

// roomyPoly is a copy in which all lists have unused capacity with known contents.
func roomyPoly(a impl.Poly) impl.Poly {
	var terms []impl.Term
	for _, term := range a.Terms {
		terms = append(terms, impl.Term{Exps: roomy(term.Exps), Coef: term.Coef})
	}
	a.Terms = append(terms, term(spare, spare), term(spare, spare))[:len(a.Terms)]
	return a
}

func roomyRule(r impl.Rule) impl.Rule {
	r.Left.Kids, r.Right.Kids = roomyExprs(r.Left.Kids), roomyExprs(r.Right.Kids)
	return r
}

func roomySymbolic(q symbolicQuestion) symbolicQuestion {
	q.p, q.a, q.b, q.r = roomyProgram(q.p), roomyPoly(q.a), roomyPoly(q.b), roomyRule(q.r)
	q.e.Kids, q.args, q.path = roomyExprs(q.e.Kids), roomy(q.args), roomy(q.path)
	var rules []impl.Rule
	for _, r := range q.rules {
		rules = append(rules, roomyRule(r))
	}
	var steps []impl.Step
	for _, step := range q.steps {
		steps = append(steps, impl.Step{Rule: step.Rule, Path: roomy(step.Path)})
	}
	q.rules = append(rules, impl.Rule{Vars: spare}, impl.Rule{Vars: spare})[:len(q.rules)]
	q.steps = append(steps, impl.Step{Rule: spare}, impl.Step{Rule: spare})[:len(q.steps)]
	return q
}

// emptyPoly is a copy with empty lists in place of all that are nil.
func emptyPoly(a impl.Poly) impl.Poly {
	terms := []impl.Term{}
	for _, term := range a.Terms {
		terms = append(terms, impl.Term{Exps: append([]int64{}, term.Exps...), Coef: term.Coef})
	}
	return polyWith(a.Vars, terms...)
}

// emptySymbolic is a copy with empty lists in place of all that are nil.
func emptySymbolic(q symbolicQuestion) symbolicQuestion {
	emptyRule := func(r impl.Rule) impl.Rule {
		r.Left.Kids, r.Right.Kids = emptyExprs(r.Left.Kids), emptyExprs(r.Right.Kids)
		return r
	}
	q.p, q.a, q.b, q.r = emptyProgram(q.p), emptyPoly(q.a), emptyPoly(q.b), emptyRule(q.r)
	q.e.Kids, q.args, q.path = emptyExprs(q.e.Kids), append([]int64{}, q.args...), append([]int64{}, q.path...)
	rules, steps := []impl.Rule{}, []impl.Step{}
	for _, r := range q.rules {
		rules = append(rules, emptyRule(r))
	}
	for _, step := range q.steps {
		steps = append(steps, impl.Step{Rule: step.Rule, Path: append([]int64{}, step.Path...)})
	}
	q.rules, q.steps = rules, steps
	return q
}

// symbolicQuestions have valid and invalid arguments of all kinds. Many expressions
// are left as they are, or become one of their kids.
func symbolicQuestions(t *testing.T) []symbolicQuestion {
	p := reading(t, "id 2: x0 | x1\nf 2: ((x0 + 0) * id.1^2(x0; (x1 * 1))) | let((x0 / x1); neg(neg(x2))) | if(0; x1; 7)\nnum 0: 5 | (0 - 0)\n")
	rules := append(impl.StandardRules(), rule(t, 1, "(x0 * 2)", "(x0 + x0)"), rule(t, 2, "(x0 + x1)", "(x1 + x0)"), rule(t, 1, "(x0 + 1)", "x0"), rule(t, 2, "(x0 * x1)", "(x0 * (x1 + (x0 - x0)))"))
	var list []symbolicQuestion
	add := func(q symbolicQuestion) {
		list = append(list, q)
		q.steps = append(q.steps, impl.Step{Rule: impl.FoldStep, Path: []int64{0}}, impl.Step{Rule: 99})
		q.a, q.b, q.variable, q.args = q.b, polyWith(2, term(1, 1, 2), term(0, 1, 1)), -1, []int64{-1}
		q.f, q.vars, q.path = 99, -1, append(q.path, 0, -1)
		list = append(list, q)
		q.p = program(function("f", 1, variable(1)))
		list = append(list, q)
		q.e, q.r = tree(impl.KDiv, num(1)), impl.Rule{Vars: 2, Left: variable(0), Right: q.r.Right}
		list = append(list, q)
	}
	for k, text := range []string{"(x0 * 2)", "((x0 + x1) * 2)", "neg(neg(id.0(x0; x1)))", "(if(0; (x0 * x1); x1) + (2 * 3))", "((x0 * x1) + (x0 * x1))", "let((x0 + 0); (x2 * 2))", "5", "x1", "(x0 + (x1 + 1))", "((1 / 0) * 0)"} {
		for i, r := range rules {
			e, fits := expression(t, p, text, 2), false
			v := inventions(int64(20*k + i))
			q := symbolicQuestion{p: p, e: e, vars: 2, funcs: 3, a: v.poly(2, 6, 6), b: v.poly(2, 6, 6), args: v.numbers(2), variable: int64(i) % 2, f: int64(k) % 3, pick: int64(i) % 2, r: r, rules: rules}
			_, q.steps, _ = impl.SimplifyExpr(p, e, 2, 3)
			q.steps = append(q.steps, impl.Step{Rule: int64(i)})
			for _, place := range spots(e, 2) {
				if _, code := impl.RewriteAt(p, e, 2, 3, r, place.path); code == impl.OK {
					q.path, fits = place.path, true
				}
			}
			if !fits && (i+k)%6 > 0 {
				continue // just some of those without a result
			}
			add(q)
		}
	}
	add(symbolicQuestion{a: manyTerms(12, 120), b: numberPoly(12, 2), variable: 3, args: make([]int64, 12)})
	add(symbolicQuestion{a: polyWith(0, term(4)), b: polyWith(0, term(5)), p: program(function("f", 0, num(3))), e: num(2)})
	return list
}

func TestP1SymbolicArgumentsAreNotModifiedAndResultsAreNewMemory(t *testing.T) {
	for _, plain := range symbolicQuestions(t) {
		for _, f := range symbolicFunctions() {
			q := roomySymbolic(plain)
			checkPureCall(t, f.name+" of "+brief(plain), q.lists(), func() []any { return f.call(q) })
		}
	}
}

func TestP1EqualSymbolicQuestionsHaveEqualAnswers(t *testing.T) {
	codes := map[string]int{}
	for _, q := range symbolicQuestions(t) {
		for _, f := range symbolicFunctions() {
			results := f.call(q)
			have := fmt.Sprint(results...)
			for _, other := range []symbolicQuestion{roomySymbolic(q), emptySymbolic(q)} {
				if again := fmt.Sprint(f.call(other)...); again != have {
					t.Fatalf("%s of %s: %s, and of a copy %s", f.name, brief(q), have, again)
				}
			}
			if !f.codes {
				continue
			}
			codes[fmt.Sprint(f.name, " ", codeOf(results))]++
			if codeOf(results) != impl.OK && f.name != "CheckSteps" && !isNothing(results[:len(results)-1]) {
				t.Errorf("%s of %s returns %s", f.name, brief(q), have)
			}
		}
	}
	for _, f := range symbolicFunctions() {
		if f.codes && codes[f.name+" 0"] < 5 {
			t.Errorf("%s has so often the codes %v", f.name, codes)
		}
	}
}

// TestP1SharedListsInSymbolicArguments has lists that occur several times in an
// argument: the results have each of them apart.
func TestP1SharedListsInSymbolicArguments(t *testing.T) {
	leaf := []impl.Expr{variable(0), variable(1)}
	twice := tree(impl.KMul, tree(impl.KSub, leaf...), tree(impl.KSub, leaf...))
	e := tree(impl.KAdd, twice, twice)
	exps := []int64{1, 1}
	double := impl.Rule{Vars: 1, Left: tree(impl.KNeg, variable(0)), Right: tree(impl.KSub, num(0), variable(0))}
	same := impl.Rule{Vars: 2, Left: twice, Right: twice}
	path := []int64{0, 0}
	p := program(function("f", 2, e, e), function("g", 2, e))
	q := symbolicQuestion{
		p: p, e: e, vars: 2, funcs: 2, a: polyWith(2, term(3, exps...)), b: polyWith(2, term(4, exps...)), args: exps, path: path[:1],
		r: same, rules: []impl.Rule{same, double, same}, steps: []impl.Step{{Rule: 0, Path: path[:1]}, {Rule: 2, Path: path[:1]}},
	}
	before := contents(q.lists()...)
	for _, f := range symbolicFunctions() {
		have := f.call(q)
		if f.codes && codeOf(have) != impl.OK {
			t.Errorf("%s has the code %d", f.name, codeOf(have))
		}
		if overlap(memoryOf(have...)) || overlap(append(memoryOf(have...), memoryOf(leaf, exps, path)...)) {
			t.Errorf("%s: a result shares memory", f.name)
		}
		wipe(have...)
		if contents(q.lists()...) != before {
			t.Errorf("%s: an argument is modified", f.name)
		}
	}
	for _, text := range []string{"(x0 * 2)", "((x0 - x1) * 2)"} {
		copied, code := impl.RewriteAt(p, expression(t, p, text, 2), 2, 2, rule(t, 1, "(x0 * 2)", "(x0 + x0)"), nil)
		if code != impl.OK || overlap(memoryOf(copied)) {
			t.Errorf("%s: the same expression stands twice in the result", text)
		}
	}
	derived := fineProgram(t)(impl.DerivedProgram(reading(t, "f 2: ((x0 * x1) / (x0 - x1)) | ((x0 + x1) * (x0 * x1))\n")))
	if overlap(memoryOf(derived)) {
		t.Error("a derived program in which nodes share memory")
	}
	list, again := impl.StandardRules(), impl.StandardRules()
	if overlap(append(memoryOf(list), memoryOf(again)...)) {
		t.Error("rules share memory")
	}
	wipe(list)
	if fmt.Sprint(again) != fmt.Sprint(impl.StandardRules()) {
		t.Error("the rules are not the same again")
	}
}

// TestP1HugeSymbolicArgumentsAreAnswered has expressions of many nodes and levels
// in each place, and long lists.
func TestP1HugeSymbolicArgumentsAreAnswered(t *testing.T) {
	plain := symbolicQuestion{p: program(function("g", 1, variable(0))), e: tree(impl.KNeg, num(1)), vars: 1, funcs: 1, r: rule(t, 1, "neg(x0)", "(0 - x0)"), a: polyWith(1, term(1, 1)), b: polyWith(1, term(1, 1)), args: []int64{1}}
	plain.rules = []impl.Rule{plain.r}
	for _, f := range symbolicFunctions() {
		if have := f.call(plain); f.codes && codeOf(have) != impl.OK {
			t.Errorf("%s has the code %d", f.name, codeOf(have))
		}
	}
	for _, e := range hugeExprs() {
		inProgram, inExpr, inRule := plain, plain, plain
		inProgram.p = program(function("g", 1, e))
		inExpr.e = e
		inRule.r = impl.Rule{Vars: 1, Left: e, Right: num(1)}
		inRule.rules = []impl.Rule{{Vars: 1, Left: num(1), Right: e}}
		for name, q := range map[string]symbolicQuestion{"RewriteAt CheckSteps SimplifyExpr SimplifyProgram DerivedProgram PolyOf": inProgram, "RewriteAt CheckSteps SimplifyExpr": inExpr, "CheckRule RewriteAt CheckSteps": inRule} {
			expectAllInvalid(t, name, q)
		}
		impl.IsTotal(e)
	}
	long := make([]int64, 1<<20)
	terms := slices.Repeat([]impl.Term{term(1, 0)}, 1<<20)
	for _, a := range []impl.Poly{polyWith(1, terms...), polyWith(1, term(1, long...)), polyWith(1<<62, term(1, 1)), polyWith(1<<20, term(1, long...))} {
		expectInvalidPoly(t, a)
	}
	q := plain
	q.args, q.path, q.steps = long, long, []impl.Step{{Path: long}}
	expectSymbolicCode(t, "PolyValue", q, impl.ErrRange)
	expectSymbolicCode(t, "RewriteAt", q, impl.ErrRange)
	expectSymbolicCode(t, "CheckSteps", q, impl.ErrRange)
	expectAllInvalid(t, "RewriteAt CheckSteps SimplifyExpr SimplifyProgram DerivedProgram PolyOf", symbolicQuestion{p: impl.Program{Funcs: make([]impl.Func, 1<<20)}, e: num(1), r: plain.r})
}

// expectAllInvalid expects ErrInvalid of some functions.
func expectAllInvalid(t *testing.T, names string, q symbolicQuestion) {
	t.Helper()
	for _, f := range symbolicFunctions() {
		if slices.Contains(strings.Fields(names), f.name) {
			expectSymbolicCode(t, f.name, q, impl.ErrInvalid)
		}
	}
}

package tests

import (
	"maps"
	"math"
	"slices"
	"strings"
	"testing"

	"loop.example/g01091/impl"
)

func TestP4Constants(t *testing.T) {
	limits := []int64{
		impl.MaxName, impl.MaxParams, impl.MaxFuncs, impl.MaxNodes, impl.MaxDepth,
		impl.MaxCount, impl.MaxSteps, impl.MaxText,
	}
	same(t, "limits", limits, []int64{12, 12, 16, 400, 60, 8, 3000, 20000})
	same(t, "kinds", kinds(), []int64{1, 2, 3, 4, 5, 6, 7, 8, 9, 10, 11})
}

func TestP4Names(t *testing.T) {
	for _, name := range append(names(), "a", "z", "a0", "a9", "az", strings.Repeat("z", impl.MaxName), "a"+strings.Repeat("9", impl.MaxName-1)) {
		if !impl.IsName(name) {
			t.Errorf("%q is not taken for a name", name)
		}
	}
	for _, name := range []string{"", "0", "0a", "9", " a", "a ", "a b", "A", "aB", "a_", "a.", "a-b", "\n", "a\n", "é", "aé", "\xff", "a\x00", strings.Repeat("a", impl.MaxName+1), strings.Repeat("a", 1<<20)} {
		if impl.IsName(name) {
			t.Errorf("%q is taken for a name", name)
		}
	}
	for b := range 256 {
		letter, digit := 'a' <= b && b <= 'z', '0' <= b && b <= '9'
		text := string([]byte{byte(b)})
		if impl.IsName(text) != letter || impl.IsName(text+"a") != letter {
			t.Errorf("names that begin with the byte %d", b)
		}
		if impl.IsName("a"+text) != (letter || digit) || impl.IsName("a"+text+"a") != (letter || digit) {
			t.Errorf("names with the byte %d", b)
		}
	}
}

// surroundings is a program with functions of several shapes, for expressions
// with three variables.
func surroundings() impl.Program {
	return program(
		function("none", 0, num(1), num(2)),
		function("two", 2, variable(0), variable(1)),
		function("fan", 1, num(1), num(2), num(3)),
		function("later", 1, num(1)),
	)
}

// wellFormed has valid expressions of all kinds in the surroundings with three
// variables and three functions.
func wellFormed() []impl.Expr {
	a, b, c := variable(0), num(5), variable(2)
	return []impl.Expr{
		a, b, c, tree(impl.KAdd, a, b), tree(impl.KSub, a, b), tree(impl.KMul, a, b), tree(impl.KDiv, a, b),
		tree(impl.KNeg, a), tree(impl.KIf, a, b, c), let(a, variable(3)), let(a, b),
		calling(0, 0), calling(0, 1), calling(1, 1, a, b), calling(2, 2, c),
		looping(1, 0, 0, a, b), looping(1, 1, impl.MaxCount, b, c),
	}
}

func expectExpr(t *testing.T, e impl.Expr, want bool) {
	t.Helper()
	if impl.ValidExpr(surroundings(), e, 3, 3) != want {
		t.Errorf("ValidExpr of %v is not %v", e, want)
	}
}

func TestP4FormsOfExpressions(t *testing.T) {
	for _, e := range wellFormed() {
		expectExpr(t, e, true)
		for kids := range 6 {
			changed := e
			changed.Kids = flatList(kids)
			expectExpr(t, changed, kids == len(e.Kids))
		}
		for _, kind := range []int64{0, 12, -1, math.MaxInt64, math.MinInt64, 1 << 32} {
			changed := e
			changed.Kind = kind
			expectExpr(t, changed, false)
		}
		for _, value := range []int64{1, -1, 2, math.MaxInt64, math.MinInt64, 1 << 32} {
			checkUnusedFields(t, e, value)
		}
	}
}

func flatList(count int) []impl.Expr {
	var list []impl.Expr
	for range count {
		list = append(list, num(1))
	}
	return list
}

func checkUnusedFields(t *testing.T, e impl.Expr, value int64) {
	t.Helper()
	changed := e
	changed.Num = value
	if e.Kind >= impl.KAdd && e.Kind <= impl.KLet {
		expectExpr(t, changed, false)
	}
	changed = e
	changed.Pick = value
	if e.Kind != impl.KCall && e.Kind != impl.KLoop {
		expectExpr(t, changed, false)
	}
	changed = e
	changed.Count = value
	if e.Kind != impl.KLoop {
		expectExpr(t, changed, false)
	}
}

func TestP4FieldsOutOfBounds(t *testing.T) {
	a := num(1)
	for _, n := range []int64{0, 1, impl.P - 1} {
		expectExpr(t, num(n), true)
	}
	for _, n := range outside(impl.P) {
		expectExpr(t, num(n), false)
		expectExpr(t, tree(impl.KNeg, num(n)), false)
	}
	for _, n := range outside(3) {
		expectExpr(t, variable(n), false)
		expectExpr(t, calling(n, 0), false)
		expectExpr(t, calling(n, 0, a), false)
		expectExpr(t, looping(n, 0, 1, a), false)
		expectExpr(t, calling(2, n, a), false)
	}
	for _, n := range outside(2) {
		expectExpr(t, calling(0, n), false)
		expectExpr(t, calling(1, n, a, a), false)
		expectExpr(t, looping(1, n, 1, a, a), false)
	}
	for _, n := range outside(impl.MaxCount + 1) {
		expectExpr(t, looping(1, 0, n, a, a), false)
	}
	for n := range int64(impl.MaxCount + 1) {
		expectExpr(t, looping(1, 0, n, a, a), true)
	}
}

func TestP4LoopsNeedAsManyOutsAsParams(t *testing.T) {
	a := num(1)
	for params := range int64(5) {
		for outs := range 5 {
			p := program(function("f", params, flatList(outs)...))
			e := looping(0, 0, 2, flatList(int(params))...)
			if have, want := impl.ValidExpr(p, e, 0, 1), params > 0 && int64(outs) == params; have != want {
				t.Errorf("a loop of %d outs and %d params: %v", outs, params, have)
			}
			e = calling(0, 0, flatList(int(params))...)
			if have, want := impl.ValidExpr(p, e, 0, 1), outs > 0; have != want {
				t.Errorf("a call of %d outs and %d params: %v", outs, params, have)
			}
		}
	}
	expectExpr(t, looping(2, 0, 0, a), false)
	expectExpr(t, looping(0, 0, 0), false)
}

func TestP4LetsBringOneVariable(t *testing.T) {
	three, four, five := variable(3), variable(4), variable(5)
	valid := []impl.Expr{
		let(num(1), three), let(num(1), let(three, four)), let(let(num(1), three), three),
		let(let(let(num(1), three), three), let(three, let(four, five))),
		calling(1, 0, let(num(1), three), let(num(2), three)),
		let(num(1), calling(1, 0, three, let(three, four))),
		looping(1, 0, 1, let(num(1), three), let(num(1), let(num(1), four))),
		tree(impl.KIf, let(num(1), three), let(num(1), three), let(num(1), three)),
	}
	invalid := []impl.Expr{
		three, let(three, num(1)), let(num(1), four), let(let(num(1), three), four),
		let(let(num(1), four), num(1)), let(num(1), let(four, num(1))), let(num(1), let(num(1), five)),
		tree(impl.KAdd, let(num(1), three), three), tree(impl.KAdd, three, let(num(1), three)),
		calling(1, 0, let(num(1), three), three), calling(1, 0, let(num(1), three), let(num(1), four)),
		looping(1, 0, 1, let(num(1), three), three),
	}
	for _, e := range valid {
		expectExpr(t, e, true)
	}
	for _, e := range invalid {
		expectExpr(t, e, false)
	}
}

func TestP4SizesAndDepths(t *testing.T) {
	for size := 1; size <= impl.MaxNodes+3; size++ {
		e := flat(size)
		if impl.ExprSize(e) != int64(size) {
			t.Errorf("the size %d is %d", size, impl.ExprSize(e))
		}
		expectExpr(t, e, size <= impl.MaxNodes)
	}
	for depth := 1; depth <= impl.MaxDepth+3; depth++ {
		for _, e := range []impl.Expr{nested(depth), tree(impl.KIf, num(0), num(1), nested(depth-1)), calling(1, 0, nested(depth-1), num(1))} {
			if depth == 1 {
				continue
			}
			if impl.ExprDepth(e) != int64(depth) {
				t.Errorf("the depth %d is %d", depth, impl.ExprDepth(e))
			}
			expectExpr(t, e, depth <= impl.MaxDepth)
		}
	}
	expectExpr(t, tree(impl.KAdd, flat(199), flat(200)), true)
	expectExpr(t, tree(impl.KAdd, flat(200), flat(200)), false)
}

func TestP4SizeAndDepthOfInvalidExpressions(t *testing.T) {
	strange := impl.Expr{Kind: -5, Num: -1, Kids: []impl.Expr{{}, {Kind: impl.KNum, Kids: []impl.Expr{nested(3), {}}}, {}}}
	if impl.ExprSize(strange) != 8 || impl.ExprDepth(strange) != 5 {
		t.Errorf("the size %d and the depth %d", impl.ExprSize(strange), impl.ExprDepth(strange))
	}
	if impl.ExprSize(impl.Expr{}) != 1 || impl.ExprDepth(impl.Expr{}) != 1 {
		t.Error("the expression that is zero")
	}
	// Lists that begin at one place need not be the same.
	list := []impl.Expr{nested(2), nested(9)}
	e := tree(impl.KAdd, tree(impl.KNeg, list[:1]...), tree(impl.KAdd, list...))
	if impl.ExprSize(e) != 16 || impl.ExprDepth(e) != 11 {
		t.Errorf("the size %d and the depth %d", impl.ExprSize(e), impl.ExprDepth(e))
	}
	expectExpr(t, e, true)
}

func TestP4Environments(t *testing.T) {
	p := surroundings()
	const most = impl.MaxParams + impl.MaxNodes
	for _, vars := range []int64{0, 1, most - 1, most} {
		for funcs := range int64(5) {
			if !impl.ValidExpr(p, num(1), vars, funcs) || impl.ValidExpr(p, variable(vars), vars, funcs) {
				t.Errorf("%d variables and %d functions", vars, funcs)
			}
			if vars > 0 && !impl.ValidExpr(p, variable(vars-1), vars, funcs) {
				t.Errorf("the last of %d variables", vars)
			}
			if !impl.ValidExpr(p, let(num(1), variable(vars)), vars, funcs) {
				t.Errorf("a variable behind %d", vars)
			}
		}
		for _, funcs := range outside(5) {
			if impl.ValidExpr(p, num(1), vars, funcs) {
				t.Errorf("%d functions are possible", funcs)
			}
		}
	}
	for _, vars := range outside(most + 1) {
		if impl.ValidExpr(p, num(1), vars, 1) {
			t.Errorf("%d variables are possible", vars)
		}
	}
	if impl.ValidExpr(p, calling(3, 0, num(1)), 0, 3) || !impl.ValidExpr(p, calling(3, 0, num(1)), 0, 4) {
		t.Error("a call of the last function")
	}
	if impl.ValidExpr(impl.Program{}, num(1), 0, 1) || !impl.ValidExpr(impl.Program{}, num(1), 0, 0) {
		t.Error("a program without functions")
	}
}

func TestP4FunctionsAroundAnExpressionNeedNotBeValid(t *testing.T) {
	p := program(
		function("", 20, append(flatList(19), variable(-7))...),
		function("same", -1, impl.Expr{}),
		function("same", 1, calling(9, 9), nested(5000)),
		function("\n", 2),
	)
	many := flatList(20)
	cases := []struct {
		e    impl.Expr
		want bool
	}{
		{calling(0, 19, many...), true}, {looping(0, 19, 8, many...), true}, {calling(0, 20, many...), false},
		{calling(0, 0, flatList(19)...), false}, {calling(1, 0), false}, {calling(1, 0, num(1)), false},
		{looping(1, 0, 0), false}, {calling(2, 1, num(1)), true}, {looping(2, 0, 1, num(1)), false},
		{calling(3, 0, num(1), num(1)), false}, {looping(3, 0, 0, num(1), num(1)), false},
	}
	for _, c := range cases {
		if impl.ValidExpr(p, c.e, 0, 4) != c.want {
			t.Errorf("ValidExpr of %v is not %v", c.e, c.want)
		}
	}
	if impl.ValidProgram(p) {
		t.Error("the program is taken for valid")
	}
}

func expectProgram(t *testing.T, name string, want bool, funcs ...impl.Func) {
	t.Helper()
	if impl.ValidProgram(program(funcs...)) != want {
		t.Errorf("%s: ValidProgram is not %v", name, want)
	}
}

func TestP4ValidPrograms(t *testing.T) {
	a := num(1)
	expectProgram(t, "no function", true)
	expectProgram(t, "one", true, function("f", 0, a))
	expectProgram(t, "two", true, function("f", 0, a), function("g", 0, a))
	expectProgram(t, "one name twice", false, function("f", 0, a), function("f", 0, a))
	expectProgram(t, "one name again", false, function("f", 0, a), function("g", 1, a), function("f", 2, a))
	for _, name := range []string{"", "1", "F", "f ", "f.", "é", strings.Repeat("f", impl.MaxName+1)} {
		expectProgram(t, "the name "+name, false, function(name, 0, a))
		expectProgram(t, "the second name "+name, false, function("f", 0, a), function(name, 0, a))
	}
	expectProgram(t, "a name of MaxName bytes", true, function(strings.Repeat("f", impl.MaxName), 0, a))
	for params := range int64(impl.MaxParams + 1) {
		expectProgram(t, "params", true, function("f", params, a))
	}
	for _, params := range outside(impl.MaxParams + 1) {
		expectProgram(t, "params out of range", false, function("f", params, a))
	}
	for outs := range impl.MaxParams + 3 {
		expectProgram(t, "outs", outs >= 1 && outs <= impl.MaxParams, function("f", 0, flatList(outs)...))
	}
	expectProgram(t, "nodes", true, function("f", 0, flat(100), flat(299), a), function("g", 0, flat(impl.MaxNodes)))
	expectProgram(t, "one node more", false, function("f", 0, flat(100), flat(300), a))
	expectProgram(t, "one node more in the second", false, function("f", 0, a), function("g", 0, flat(impl.MaxNodes+1)))
	expectProgram(t, "levels", true, function("f", 0, nested(impl.MaxDepth), nested(impl.MaxDepth)))
	expectProgram(t, "one level more", false, function("f", 0, a, nested(impl.MaxDepth+1)))
}

func TestP4ProgramsOfManyFunctions(t *testing.T) {
	var funcs []impl.Func
	for k := range impl.MaxFuncs + 2 {
		expectProgram(t, "functions", k <= impl.MaxFuncs, funcs...)
		name := string([]byte{'f', byte('a' + k)})
		funcs = append(funcs, function(name, 1, flat(impl.MaxNodes)))
	}
}

func TestP4FunctionsCallThoseBeforeThem(t *testing.T) {
	a := num(1)
	leaf := function("leaf", 1, variable(0))
	for _, e := range []impl.Expr{calling(0, 0, a), looping(0, 0, 3, a)} {
		expectProgram(t, "itself", false, function("f", 1, e))
		expectProgram(t, "the one before", true, leaf, function("f", 1, e))
		expectProgram(t, "a later one", false, function("f", 1, e), leaf)
		expectProgram(t, "in another out", false, function("f", 1, a, e))
	}
	expectProgram(t, "itself as the second one", false, leaf, function("f", 1, calling(1, 0, a)))
	expectProgram(t, "the next one", false, leaf, function("f", 1, calling(2, 0, a)), function("g", 1, a))
	expectProgram(t, "no such one", false, leaf, function("f", 1, calling(-1, 0, a)))
	expectProgram(t, "a variable", true, function("f", 2, variable(1)))
	expectProgram(t, "no such variable", false, function("f", 2, variable(2)))
	expectProgram(t, "no such variable in the second out", false, function("f", 2, a, variable(2)))
	expectProgram(t, "a variable of another function", false, function("f", 2, a), function("g", 1, variable(1)))
	expectProgram(t, "no variables", false, function("f", 0, variable(0)))
	expectProgram(t, "a call without arguments", true, function("f", 0, a), function("g", 0, calling(0, 0)))
}

// changes are copies of an expression with one difference each.
func changes(e impl.Expr) []impl.Expr {
	var list []impl.Expr
	for _, field := range []func(e *impl.Expr) *int64{
		func(e *impl.Expr) *int64 { return &e.Kind },
		func(e *impl.Expr) *int64 { return &e.Num },
		func(e *impl.Expr) *int64 { return &e.Pick },
		func(e *impl.Expr) *int64 { return &e.Count },
	} {
		changed := copyOf(e)
		*field(&changed) ^= 1 << 40
		list = append(list, changed)
	}
	more, fewer := copyOf(e), copyOf(e)
	more.Kids = append(more.Kids, num(0))
	list = append(list, more)
	if len(e.Kids) > 0 {
		fewer.Kids = fewer.Kids[1:]
		list = append(list, fewer)
	}
	for k, kid := range e.Kids {
		for _, other := range changes(kid) {
			changed := copyOf(e)
			changed.Kids[k] = other
			list = append(list, changed)
		}
	}
	return list
}

func TestP4SameExpressions(t *testing.T) {
	for seed := range int64(40) {
		v := inventions(seed)
		v.program(3)
		v.nodes = 40
		e := v.expr(3, 5)
		if !impl.SameExpr(e, copyOf(e)) || !impl.SameExpr(e, e) {
			t.Errorf("%v and its copy are different", e)
		}
		for _, other := range changes(e) {
			if impl.SameExpr(e, other) || impl.SameExpr(other, e) || !impl.SameExpr(other, copyOf(other)) {
				t.Errorf("%v and %v are the same", e, other)
			}
		}
	}
	empty := impl.Expr{Kind: impl.KNum, Kids: []impl.Expr{}}
	if !impl.SameExpr(empty, num(0)) || !impl.SameExpr(num(0), empty) {
		t.Error("an empty list and none are different")
	}
	shared := []impl.Expr{num(1), num(2)}
	if impl.SameExpr(tree(impl.KAdd, shared...), tree(impl.KAdd, shared[:1]...)) {
		t.Error("a list and its beginning are the same")
	}
	twice := tree(impl.KAdd, tree(impl.KNeg, shared[:1]...), tree(impl.KNeg, shared[:1]...))
	once := tree(impl.KAdd, tree(impl.KNeg, num(1)), tree(impl.KNeg, num(3)))
	if impl.SameExpr(twice, once) || !impl.SameExpr(twice, copyOf(twice)) {
		t.Error("expressions with a list that occurs twice")
	}
}

func TestP4SamePrograms(t *testing.T) {
	for seed := range int64(20) {
		p := inventions(seed).program(4)
		if !impl.SameProgram(p, copyOfProgram(p)) {
			t.Errorf("%v and its copy are different", p)
		}
		for k := range p.Funcs {
			for _, change := range []func(f *impl.Func){
				func(f *impl.Func) { f.Name += "0" },
				func(f *impl.Func) { f.Params++ },
				func(f *impl.Func) { f.Outs = f.Outs[1:] },
				func(f *impl.Func) { f.Outs = append(f.Outs, num(1)) },
				func(f *impl.Func) { f.Outs[len(f.Outs)-1].Num++ },
			} {
				q := copyOfProgram(p)
				change(&q.Funcs[k])
				if impl.SameProgram(p, q) || impl.SameProgram(q, p) || !impl.SameProgram(q, copyOfProgram(q)) {
					t.Errorf("%v and %v are the same", p, q)
				}
			}
		}
		if impl.SameProgram(p, program(p.Funcs[:3]...)) || impl.SameProgram(program(p.Funcs[1:]...), p) {
			t.Error("a program and a part of it are the same")
		}
	}
	if !impl.SameProgram(impl.Program{}, program([]impl.Func{}...)) || !impl.SameProgram(program(function("", -1)), program(impl.Func{Params: -1, Outs: []impl.Expr{}})) {
		t.Error("an empty list and none are different")
	}
}

func expectVariables(t *testing.T, e impl.Expr, vars int64, want ...int64) {
	t.Helper()
	have, code := impl.VariablesOf(e, vars)
	if code != impl.OK {
		t.Errorf("VariablesOf %v with %d variables: the code %d", e, vars, code)
	}
	same(t, "VariablesOf", have, want)
}

func refuseVariables(t *testing.T, e impl.Expr, vars int64) {
	t.Helper()
	have, code := impl.VariablesOf(e, vars)
	refused(t, "VariablesOf", have, code, impl.ErrInvalid)
}

func TestP4VariablesOf(t *testing.T) {
	x, y, z := variable(0), variable(1), variable(2)
	expectVariables(t, num(7), 0)
	expectVariables(t, num(7), impl.MaxParams+impl.MaxNodes)
	expectVariables(t, variable(411), 412, 411)
	expectVariables(t, tree(impl.KAdd, z, tree(impl.KMul, x, z)), 3, 0, 2)
	expectVariables(t, tree(impl.KIf, z, y, x), 3, 0, 1, 2)
	expectVariables(t, let(x, tree(impl.KAdd, z, variable(3))), 3, 0, 2)
	expectVariables(t, let(let(y, variable(3)), let(variable(3), tree(impl.KSub, variable(4), x))), 3, 0, 1)
	expectVariables(t, let(num(1), x), 0)
	expectVariables(t, let(num(1), tree(impl.KAdd, x, y)), 1, 0)
	expectVariables(t, calling(99, -1, y, looping(-5, 3, 100, z)), 3, 1, 2)
	expectVariables(t, impl.Expr{Kind: impl.KNum, Num: -1, Kids: []impl.Expr{y}}, 2, 1)
	expectVariables(t, impl.Expr{Kind: impl.KVar, Num: 1, Kids: []impl.Expr{x, {Kind: 77, Kids: []impl.Expr{z}}}}, 3, 0, 1, 2)
	expectVariables(t, impl.Expr{Kind: impl.KNeg, Num: 9, Kids: []impl.Expr{x, y, z}}, 3, 0, 1, 2)
	expectVariables(t, impl.Expr{}, 0)
}

func TestP4VariablesOfInvalid(t *testing.T) {
	x, y := variable(0), variable(1)
	for _, vars := range outside(impl.MaxParams + impl.MaxNodes + 1) {
		refuseVariables(t, num(1), vars)
	}
	for _, n := range outside(2) {
		refuseVariables(t, variable(n), 2)
		refuseVariables(t, tree(impl.KAdd, x, variable(n)), 2)
		refuseVariables(t, let(variable(n), x), 2)
		refuseVariables(t, impl.Expr{Kind: impl.KNum, Kids: []impl.Expr{variable(n)}}, 2)
	}
	refuseVariables(t, x, 0)
	refuseVariables(t, let(num(1), variable(2)), 1)
	refuseVariables(t, let(y, num(1)), 1)
	refuseVariables(t, let(let(num(1), y), variable(2)), 1)
	refuseVariables(t, tree(impl.KAdd, let(num(1), y), y), 1)
	refuseVariables(t, let(num(1), let(num(1), variable(math.MaxInt64))), 1)
	for kids := range 5 {
		if kids != 2 {
			refuseVariables(t, tree(impl.KLet, flatList(kids)...), 3)
			refuseVariables(t, tree(impl.KNeg, tree(impl.KLet, flatList(kids)...)), 3)
			refuseVariables(t, impl.Expr{Kind: impl.KVar, Kids: []impl.Expr{tree(impl.KLet, flatList(kids)...)}}, 3)
		}
	}
}

// variablesIn adds the variables less than vars of an expression, which is read
// with some more, to a set. It reports whether there is nothing wrong with it.
func variablesIn(e impl.Expr, vars, now int64, set map[int64]bool) bool {
	if e.Kind == impl.KVar && (e.Num < 0 || e.Num >= now) || e.Kind == impl.KLet && len(e.Kids) != 2 {
		return false
	}
	if e.Kind == impl.KVar && e.Num < vars {
		set[e.Num] = true
	}
	for k, kid := range e.Kids {
		more := now
		if e.Kind == impl.KLet && k == 1 {
			more++
		}
		if !variablesIn(kid, vars, more, set) {
			return false
		}
	}
	return true
}

func TestP4VariablesOfManyExpressions(t *testing.T) {
	taken := 0
	for seed := range int64(300) {
		v := inventions(seed)
		v.program(2)
		v.nodes = 60
		e := v.expr(4, 6)
		if !impl.ValidExpr(v.p, e, 4, 2) {
			t.Errorf("%v is not valid", e)
		}
		for vars := range int64(7) {
			set := map[int64]bool{}
			if !variablesIn(e, vars, vars, set) {
				refuseVariables(t, e, vars)
				continue
			}
			taken++
			expectVariables(t, e, vars, slices.Sorted(maps.Keys(set))...)
		}
	}
	if taken < 900 || taken > 2000 {
		t.Errorf("%d expressions have variables", taken)
	}
}

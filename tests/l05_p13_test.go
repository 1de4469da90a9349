package tests

import (
	"fmt"
	"slices"
	"strings"
	"testing"

	"loop.example/g01091/impl"
)

// derivedTexts makes the texts of the expressions of derived functions. There are
// so many variables at a place, and each variable of the expression that is derived
// has the numbers of two of them.
type derivedTexts struct {
	p              impl.Program
	values, slopes []int64
	count          int64
}

// within is the place behind more variables, of which the first ones are those of a
// let that is derived.
func (d derivedTexts) within(more int64) derivedTexts {
	d.values, d.slopes = append(slices.Clone(d.values), d.count), append(slices.Clone(d.slopes), d.count+1)
	d.count += more
	return d
}

// kids are the texts of some kids.
func (d derivedTexts) kids(list []impl.Expr, text func(d derivedTexts, e impl.Expr) string) []string {
	var texts []string
	for _, e := range list {
		texts = append(texts, text(d, e))
	}
	return texts
}

func (d derivedTexts) value(e impl.Expr) string {
	switch e.Kind {
	case impl.KVar:
		return fmt.Sprintf("x%d", d.values[e.Num])
	case impl.KLet:
		return "let(" + d.value(e.Kids[0]) + "; " + d.within(1).value(e.Kids[1]) + ")"
	}
	return nodeText(d.p, e, d.kids(e.Kids, derivedTexts.value))
}

func (d derivedTexts) slope(e impl.Expr) string {
	if e.Kind == impl.KLet {
		behind := d
		behind.count++
		return "let(" + d.value(e.Kids[0]) + "; let(" + behind.slope(e.Kids[0]) + "; " + d.within(2).slope(e.Kids[1]) + "))"
	}
	v, s := d.kids(e.Kids, derivedTexts.value), d.kids(e.Kids, derivedTexts.slope)
	switch e.Kind {
	case impl.KNum:
		return "0"
	case impl.KVar:
		return fmt.Sprintf("x%d", d.slopes[e.Num])
	case impl.KMul:
		return fmt.Sprintf("((%s * %s) + (%s * %s))", s[0], v[1], v[0], s[1])
	case impl.KDiv:
		return fmt.Sprintf("((%s - ((%s / %s) * %s)) / %s)", s[0], v[0], v[1], s[1], v[1])
	case impl.KIf:
		return nodeText(d.p, e, []string{v[0], s[1], s[2]})
	case impl.KCall, impl.KLoop:
		head := fmt.Sprintf("d%d.%d", int64(len(d.p.Funcs))+e.Num, e.Pick+int64(len(d.p.Funcs[e.Num].Outs)))
		if e.Kind == impl.KLoop {
			head += fmt.Sprintf("^%d", e.Count)
		}
		return head + "(" + strings.Join(append(v, s...), "; ") + ")"
	}
	return nodeText(d.p, e, s)
}

// derivedText is the text of the derived program, without any limit.
func derivedText(p impl.Program) string {
	text := textOfProgram(p)
	for f, function := range p.Funcs {
		d := derivedTexts{p: p, count: 2 * function.Params}
		for k := range function.Params {
			d.values, d.slopes = append(d.values, k), append(d.slopes, function.Params+k)
		}
		outs := append(d.kids(function.Outs, derivedTexts.value), d.kids(function.Outs, derivedTexts.slope)...)
		text += fmt.Sprintf("d%d %d: %s\n", len(p.Funcs)+f, d.count, strings.Join(outs, " | "))
	}
	return text
}

func TestP13DerivedByHand(t *testing.T) {
	before := "g 2: x1 | (x0 * 3)\nh 1: 5 | x0\nk 0: 7\n"
	for text, want := range map[string]string{
		"5": "5 | 0", "x0": "x0 | x2", "x1": "x1 | x3", "(x0 + x1)": "(x0 + x1) | (x2 + x3)", "(x0 - 4)": "(x0 - 4) | (x2 - 0)", "(x0 * x1)": "(x0 * x1) | ((x2 * x1) + (x0 * x3))", "(x0 / x1)": "(x0 / x1) | ((x2 - ((x0 / x1) * x3)) / x1)", "neg(x1)": "neg(x1) | neg(x3)", "(1 / 0)": "(1 / 0) | ((0 - ((1 / 0) * 0)) / 0)",
		"if(x0; x1; 2)": "if(x0; x1; 2) | if(x0; x3; 0)", "if((x0 * x1); (x1 * x1); if(0; 1; x0))": "if((x0 * x1); (x1 * x1); if(0; 1; x0)) | if((x0 * x1); ((x3 * x1) + (x1 * x3)); if(0; 0; x2))",
		"let(x0; x2)":                        "let(x0; x4) | let(x0; let(x2; x5))",
		"let(x0; let(x1; (x2 + x3)))":        "let(x0; let(x1; (x4 + x5))) | let(x0; let(x2; let(x1; let(x3; (x5 + x7)))))",
		"let(let(x0; x2); let(x2; x3))":      "let(let(x0; x4); let(x4; x5)) | let(let(x0; x4); let(let(x0; let(x2; x6)); let(x4; let(x5; x7))))",
		"let(x0; (x2 * let(x1; (x2 * x3))))": "let(x0; (x4 * let(x1; (x4 * x5)))) | let(x0; let(x2; ((x5 * let(x1; (x4 * x6))) + (x4 * let(x1; let(x3; ((x5 * x6) + (x4 * x7))))))))",
		"(let(x0; x2) + let(x1; x2))":        "(let(x0; x4) + let(x1; x4)) | (let(x0; let(x2; x5)) + let(x1; let(x3; x5)))",
		"g.0(x0; x1)":                        "g.0(x0; x1) | d4.2(x0; x1; x2; x3)",
		"g.1((x0 * x1); 2)":                  "g.1((x0 * x1); 2) | d4.3((x0 * x1); 2; ((x2 * x1) + (x0 * x3)); 0)",
		"h.0(x1)":                            "h.0(x1) | d5.2(x1; x3)",
		"k.0()":                              "k.0() | d6.1()",
		"g.1^3(x0; x1)":                      "g.1^3(x0; x1) | d4.3^3(x0; x1; x2; x3)",
		"g.0^0(x0; 1)":                       "g.0^0(x0; 1) | d4.2^0(x0; 1; x2; 0)",
		"let(g.0(x0; x1); h.1(x2))":          "let(g.0(x0; x1); h.1(x4)) | let(g.0(x0; x1); let(d4.2(x0; x1; x2; x3); d5.3(x4; x5)))",
		"g.0(let(x0; x2); x1)":               "g.0(let(x0; x4); x1) | d4.2(let(x0; x4); x1; let(x0; let(x2; x5)); x3)",
	} {
		p := reading(t, before+"f 2: "+text+"\n")
		q := fineProgram(t)(impl.DerivedProgram(p))
		lines := strings.Split(impl.ProgramText(q), "\n")
		if len(q.Funcs) != 8 || lines[7] != "d7 4: "+want {
			t.Errorf("%s: have %s, want %s", text, lines[7], want)
		}
	}
	q := fineProgram(t)(impl.DerivedProgram(reading(t, before)))
	want := before + "d3 4: x1 | (x0 * 3) | x3 | ((x2 * 3) + (x0 * 0))\nd4 2: 5 | x0 | 0 | x1\nd5 0: 7 | 0\n"
	if text := impl.ProgramText(q); text != want {
		t.Errorf("have %q, want %q", text, want)
	}
	if q := fineProgram(t)(impl.DerivedProgram(impl.Program{})); len(q.Funcs) > 0 {
		t.Error("the derived program of one without functions")
	}
	example := impl.ProgramText(fineProgram(t)(impl.DerivedProgram(reading(t, "sq 1: (x0 * x0)\n"))))
	if example != "sq 1: (x0 * x0)\nd1 2: (x0 * x0) | ((x1 * x0) + (x0 * x1))\n" {
		t.Errorf("the example is %q", example)
	}
}

// TestP13DerivedErrors has new names that are there already, and programs whose
// derived ones are just within a limit or just beyond it.
func TestP13DerivedErrors(t *testing.T) {
	many := func(count int, name string) impl.Program {
		p := program(function(name, 0, num(1)))
		for k := 1; k < count; k++ {
			p.Funcs = append(p.Funcs, function(fmt.Sprint("f", k), 0, num(1)))
		}
		return p
	}
	single := func(params int64, outs ...impl.Expr) impl.Program { return program(function("f", params, outs...)) }
	calls := func(size, count int) impl.Program {
		outs := []impl.Expr{flat(size)}
		for range count {
			outs = append(outs, calling(0, 0, num(1)))
		}
		return program(function("g", 1, variable(0)), function("f", 0, outs...))
	}
	for _, c := range []struct {
		name string
		p    impl.Program
		want int64
	}{
		{"no functions", impl.Program{}, impl.OK}, {"an invalid program", many(17, "d17"), impl.ErrInvalid}, {"an invalid function", program(function("d1", 7)), impl.ErrInvalid},
		{"d1", many(1, "d1"), impl.ErrState}, {"d2 of one function", many(1, "d2"), impl.OK}, {"d0", many(1, "d0"), impl.OK}, {"d01", many(1, "d01"), impl.OK}, {"d", many(1, "d"), impl.OK}, {"d1 of two functions", many(2, "d1"), impl.OK}, {"d2 of two functions", many(2, "d2"), impl.ErrState}, {"d3 of two functions", many(2, "d3"), impl.ErrState}, {"d4 of two functions", many(2, "d4"), impl.OK}, {"d8 of 8 functions", many(8, "d8"), impl.ErrState}, {"d15 of 8 functions", many(8, "d15"), impl.ErrState}, {"d16 of 8 functions", many(8, "d16"), impl.OK},
		{"a name of a later function", program(function("f", 0, num(1)), function("d2", 0, num(1))), impl.ErrState}, {"the last name of a later function", program(function("f", 0, num(1)), function("d3", 0, num(1))), impl.ErrState},
		{"8 functions", many(8, "f"), impl.OK}, {"9 functions", many(9, "f"), impl.ErrLimit}, {"16 functions", many(16, "f"), impl.ErrLimit}, {"9 functions and a name", many(9, "d9"), impl.ErrState}, {"9 functions and the last name", many(9, "d17"), impl.ErrState}, {"9 functions and another name", many(9, "d8"), impl.ErrLimit}, {"16 functions and the last name", many(16, "d31"), impl.ErrState}, {"16 functions and another name", many(16, "d32"), impl.ErrLimit},
		{"6 params", single(6, variable(5)), impl.OK}, {"7 params", single(7, variable(5)), impl.ErrLimit}, {"12 params", single(12, variable(5)), impl.ErrLimit}, {"7 params and a name", program(function("d1", 7, num(1))), impl.ErrState}, {"6 outs", single(0, flatList(6)...), impl.OK}, {"7 outs", single(0, flatList(7)...), impl.ErrLimit}, {"12 outs", single(0, flatList(12)...), impl.ErrLimit},
		{"400 nodes", single(0, flat(200)), impl.OK}, {"402 nodes", single(0, flat(201)), impl.ErrLimit}, {"400 nodes of two outs", single(0, flat(100), flat(100)), impl.OK}, {"402 nodes of two outs", single(0, flat(100), flat(101)), impl.ErrLimit}, {"399 nodes with a call", calls(197, 1), impl.OK}, {"401 nodes with a call", calls(198, 1), impl.ErrLimit}, {"400 nodes with two calls", calls(195, 2), impl.OK}, {"402 nodes with two calls", calls(196, 2), impl.ErrLimit}, {"400 nodes of a function behind a large one", program(function("g", 0, flat(200)), function("f", 0, flat(200))), impl.OK}, {"402 nodes of the first function", program(function("g", 0, flat(201)), function("f", 0, num(1))), impl.ErrLimit},
		{"60 levels", single(0, nested(60)), impl.OK}, {"60 levels of a product", single(0, tree(impl.KMul, num(1), nested(58))), impl.OK}, {"61 levels of a product", single(0, tree(impl.KMul, num(1), nested(59))), impl.ErrLimit}, {"60 levels of a let", single(0, let(num(1), nested(58))), impl.OK}, {"61 levels of a let", single(0, let(num(1), nested(59))), impl.ErrLimit}, {"61 levels of the first kid of a let", single(0, let(nested(59), num(1))), impl.ErrLimit}, {"60 levels of the first kid of a let", single(0, let(nested(58), num(1))), impl.OK},
		{"60 levels of a quotient", single(0, tree(impl.KDiv, nested(56), num(1))), impl.OK}, {"61 levels of a quotient", single(0, tree(impl.KDiv, nested(57), num(1))), impl.ErrLimit}, {"60 levels of a divisor", single(0, tree(impl.KDiv, num(1), nested(56))), impl.OK}, {"61 levels of a divisor", single(0, tree(impl.KDiv, num(1), nested(57))), impl.ErrLimit}, {"60 levels of a condition", single(0, tree(impl.KIf, nested(59), num(1), num(2))), impl.OK}, {"a branch of 60 levels", single(0, tree(impl.KIf, num(1), num(1), nested(59))), impl.OK}, {"a call of 60 levels", program(function("g", 1, variable(0)), function("f", 0, calling(0, 0, nested(59)))), impl.OK},
		{"a long chain of products", single(1, chainOf(impl.KMul, 59)), impl.ErrLimit}, {"a long chain of quotients", single(1, chainOf(impl.KDiv, 59)), impl.ErrLimit}, {"a chain of products", single(1, chainOf(impl.KMul, 12)), impl.OK},
	} {
		expectSymbolicCode(t, "DerivedProgram", symbolicQuestion{p: c.p}, c.want)
		if c.want == impl.OK || c.want == impl.ErrLimit {
			_, _, code := impl.ReadProgram(derivedText(c.p))
			if (code == impl.OK) != (c.want == impl.OK) {
				t.Errorf("%s: the text of the derived program is read with the code %d", c.name, code)
			}
		}
	}
}

// chainOf has so many nodes of a kind, one above the other.
func chainOf(kind int64, count int) impl.Expr {
	e := variable(0)
	for range count {
		e = tree(kind, e, variable(0))
	}
	return e
}

// expectDerived fails the test unless the derived program is the one with the text
// that another way comes to.
func expectDerived(t *testing.T, p impl.Program) (impl.Program, bool) {
	t.Helper()
	text := derivedText(p)
	want, _, code := impl.ReadProgram(text)
	taken := slices.ContainsFunc(p.Funcs, func(f impl.Func) bool {
		for k := range p.Funcs {
			if f.Name == fmt.Sprintf("d%d", len(p.Funcs)+k) {
				return true
			}
		}
		return false
	})
	switch {
	case taken:
		expectSymbolicCode(t, "DerivedProgram", symbolicQuestion{p: p}, impl.ErrState)
		return p, false
	case len(text) > impl.MaxText:
		return p, false
	case code != impl.OK:
		expectSymbolicCode(t, "DerivedProgram", symbolicQuestion{p: p}, impl.ErrLimit)
		return p, false
	}
	q := fineProgram(t)(impl.DerivedProgram(p))
	if !impl.SameProgram(q, want) {
		t.Errorf("the derived program of\n%s is\n%s, want\n%s", textOfProgram(p), impl.ProgramText(q), text)
	}
	return q, true
}

// TestP13ManyPrograms compares with another way to the derived program, and its
// values and derivatives with those of Directional.
func TestP13ManyPrograms(t *testing.T) {
	counts := map[string]int{}
	check := func(v *invention, p impl.Program) {
		q, ok := expectDerived(t, p)
		if !ok {
			counts["refused"]++
			return
		}
		n := int64(len(p.Funcs))
		for f, function := range p.Funcs {
			for range 3 {
				args, dir := v.numbers(function.Params), v.numbers(function.Params)
				values, slopes, code := impl.Directional(p, int64(f), args, dir)
				have, _, derived := impl.Evaluate(q, n+int64(f), slices.Concat(args, dir))
				counts[fmt.Sprint(code, derived)]++
				if derived == impl.ErrBudget && code != impl.ErrBudget {
					continue // the derivatives need more steps
				}
				sameNumber(t, "the code", derived, code)
				same(t, "values and derivatives", have, slices.Concat(values, slopes))
			}
		}
	}
	for seed := range int64(600) {
		v := inventions(seed + 60000)
		v.program(1 + v.Intn(10))
		check(v, v.p)
	}
	redundantPrograms(100, check)
	if counts["0 0"] < 1500 || counts["6 6"] < 1000 || counts["refused"] < 20 {
		t.Errorf("so often: %v", counts)
	}
}

// TestP13DerivedTwice has the second derivatives of the functions of programs that
// are derived twice.
func TestP13DerivedTwice(t *testing.T) {
	done := 0
	for seed := range int64(900) {
		v := inventions(seed + 70000)
		v.nodes = 15
		params := 1 + v.Int63n(2)
		p := program(function("f", params, v.expr(params, 4)))
		if v.Intn(2) == 0 {
			v.p, v.nodes = p, 8
			p = program(p.Funcs[0], function("g", params, v.expr(params, 3), calling(0, 0, flatVariables(params)...)))
		}
		once, ok := expectDerived(t, p)
		if !ok {
			continue
		}
		twice, ok := expectDerived(t, once)
		if !ok {
			continue
		}
		n := int64(len(p.Funcs))
		for f, function := range p.Funcs {
			args, dir, other := v.numbers(params), v.numbers(params), v.numbers(params)
			list := slices.Concat(args, dir, other, make([]int64, params))
			have, _, code := impl.Evaluate(twice, 3*n+int64(f), list)
			if code != impl.OK {
				continue
			}
			done++
			var want []int64
			values, slopes, _ := impl.Directional(p, int64(f), args, dir)
			_, others, _ := impl.Directional(p, int64(f), args, other)
			for pick := range function.Outs {
				want = append(want, dot(dir, fine(t)(impl.HessianTimes(p, int64(f), int64(pick), args, other))))
			}
			same(t, "second derivatives", have, slices.Concat(values, slopes, others, want))
		}
	}
	if done < 300 {
		t.Errorf("%d functions", done)
	}
}

// flatVariables are the first so many variables.
func flatVariables(count int64) []impl.Expr {
	var list []impl.Expr
	for k := range count {
		list = append(list, variable(k))
	}
	return list
}

// TestP13DerivedManyTimes derives a function as often as there is room.
func TestP13DerivedManyTimes(t *testing.T) {
	p := reading(t, "f 1: (x0 * (x0 * x0))\n")
	for _, code := range []int64{impl.OK, impl.OK, impl.OK, impl.ErrLimit} {
		expectSymbolicCode(t, "DerivedProgram", symbolicQuestion{p: p}, code)
		if code == impl.OK {
			p, _ = expectDerived(t, p)
		}
	}
	// The last function has the third derivative for x0, and its own ones.
	if len(p.Funcs) != 8 || p.Funcs[7].Name != "d7" || p.Funcs[7].Params != 8 {
		t.Fatalf("have %s", impl.ProgramText(p))
	}
	values, _, code := impl.Evaluate(p, 7, []int64{5, 1, 1, 0, 1, 0, 0, 0})
	if code != impl.OK || values[len(values)-1] != 6 || values[0] != 125 {
		t.Errorf("%v with the code %d", values, code)
	}
}

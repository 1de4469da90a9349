package tests

import (
	"fmt"
	"math/big"
	"slices"
	"testing"

	"loop.example/g01091/impl"
)

// expectRun fails the test unless a function has these values and steps.
func expectRun(t *testing.T, p impl.Program, f int64, args, want []int64, steps int64) {
	t.Helper()
	have, count, code := impl.Evaluate(p, f, args)
	if code != impl.OK || count != steps || !slices.Equal(have, want) {
		t.Errorf("%s of %v: %v by %d steps with the code %d, want %v by %d steps", p.Funcs[f].Name, args, have, count, code, want, steps)
	}
}

// refuseRun fails the test unless a function has no values but a code.
func refuseRun(t *testing.T, p impl.Program, f int64, args []int64, want int64) {
	t.Helper()
	have, steps, code := impl.Evaluate(p, f, args)
	if steps != 0 {
		t.Errorf("%d steps beside the code %d", steps, code)
	}
	refused(t, fmt.Sprint("Evaluate of ", f, " for ", args), have, code, want)
}

func TestP4EvaluateExample(t *testing.T) {
	expectRun(t, reading(t, exampleText), 1, []int64{3, 2}, []int64{11, 16}, 17)
	expectRun(t, reading(t, exampleText), 0, []int64{1000002}, []int64{1}, 3)
}

// helpers are functions for the expressions that are evaluated below.
const helpers = "sum 2: (x0 + x1) | 5\nswap 2: x1 | x0\nlong 1: (((x0 + 1) + 1) + 1) | x0\nnone 0: 7\nfib 2: (x0 + x1) | x0\nzero 1: (1 / 0) | x0\n"

func TestP4ValuesAndSteps(t *testing.T) {
	for _, c := range []struct {
		text        string
		want, steps int64
	}{
		{"9", 9, 1}, {"x0", 20, 1}, {"x1", 3, 1},
		{"(x0 + x1)", 23, 3}, {"(x0 - x1)", 17, 3}, {"(x1 - x0)", 999986, 3}, {"(x0 * x1)", 60, 3}, {"(x0 / x1)", 333341, 3}, {"(x0 / 5)", 4, 3}, {"(0 / x1)", 0, 3},
		{"(1000002 + 1000002)", 1000001, 3}, {"(1000002 * 1000002)", 1, 3}, {"(0 - 1000002)", 1, 3},
		{"neg(x1)", 1000000, 2}, {"neg(0)", 0, 2}, {"neg(neg(x0))", 20, 3},
		{"if(0; 4; 5)", 4, 3}, {"if(1; 4; 5)", 5, 3}, {"if(1000002; 4; 5)", 5, 3}, {"if((x0 - 20); (x0 + 1); neg(5))", 21, 7}, {"if((x0 - 19); (x0 + 1); neg(5))", 999998, 6},
		{"if(0; 4; (1 / 0))", 4, 3}, {"if(1; (1 / 0); 5)", 5, 3}, {"if(if(0; 1; 0); 4; if(0; 6; 7))", 6, 7},
		{"let(x1; (x2 * x2))", 9, 5}, {"let(4; 5)", 5, 3}, {"let(let(x1; (x2 + 1)); (x2 * x0))", 80, 9}, {"let(x0; let(x1; (x2 - x3)))", 17, 7},
		{"(let(1; x2) + let(2; x2))", 3, 7}, {"let(1; (let(2; x3) + let(x2; x3)))", 3, 9}, {"let(1; let((x2 + 1); let((x3 + 1); ((x2 * 100) + ((x3 * 10) + x4)))))", 123, 19},
		{"sum.0(x0; x1)", 23, 6}, {"sum.1(x0; x1)", 5, 4}, {"swap.0(x0; x1)", 3, 4}, {"swap.1(x0; x1)", 20, 4}, {"long.1(1)", 1, 3}, {"long.0(1)", 4, 9}, {"none.0()", 7, 2},
		{"zero.1(8)", 8, 3}, {"sum.0(let(x0; x2); let(x1; x2))", 23, 10}, {"let(1; sum.0(x2; let(x2; (x3 + x2))))", 3, 12},
		{"sum.0(sum.0(1; 2); sum.1(3; 4))", 8, 14}, {"let(sum.0(x0; x1); swap.0(x2; x2))", 23, 11},
		{"fib.0^0(1; 0)", 1, 3}, {"fib.1^0(1; 0)", 0, 3}, {"fib.0^1(1; 0)", 1, 7}, {"fib.0^2(1; 0)", 2, 11}, {"fib.0^8(1; 0)", 34, 35}, {"fib.1^8(1; 0)", 21, 35},
		{"swap.0^7(x0; x1)", 3, 17}, {"swap.0^8(x0; x1)", 20, 19}, {"sum.0^3(x0; x1)", 33, 15}, {"sum.1^1(x0; x1)", 5, 7},
		{"fib.0^2(fib.0^2(1; 0); fib.1^2(1; 0))", 5, 31}, {"let(2; fib.0^2(x2; let(x2; (x2 * x3))))", 8, 17},
	} {
		p := reading(t, helpers+"f 2: "+c.text+"\n")
		expectRun(t, p, 6, []int64{20, 3}, []int64{c.want}, c.steps)
	}
}

func TestP4OutsAreEvaluatedInOrder(t *testing.T) {
	p := reading(t, helpers+"f 1: 4 | (x0 * 2) | neg(x0) | long.1(x0)\n")
	expectRun(t, p, 6, []int64{5}, []int64{4, 10, 999998, 5}, 9)
	expectRun(t, p, 1, []int64{0, 1000002}, []int64{1000002, 0}, 2)
	expectRun(t, p, 3, nil, []int64{7}, 1)
	expectRun(t, p, 3, []int64{}, []int64{7}, 1)
}

func TestP4DivisionsByZero(t *testing.T) {
	for _, text := range []string{
		"(x0 / 0)", "(0 / 0)", "(1 / (x0 - x0))", "neg((1 / 0))", "((1 / 0) + 1)", "(1 + (1 / 0))", "((1 / 0) / 0)",
		"if((1 / 0); 1; 1)", "if(0; (1 / 0); 1)", "if(1; 1; (1 / 0))", "let((1 / 0); 1)", "let(1; (1 / 0))", "let(0; (1 / x2))",
		"long.1((1 / 0))", "zero.0(1)", "zero.1(zero.0(1))", "sum.1(1; (1 / 0))", "sum.1((1 / 0); 1)", "fib.1^0(1; (1 / 0))", "inv.0^3(1; 2)", "1 | (1 / 0)", "(1 / 0) | 1",
	} {
		// The outputs of inv divide by 0 when it is done the third time.
		p := reading(t, helpers+"inv 2: (x0 / x1) | (x1 - 1)\nf 2: "+text+"\n")
		refuseRun(t, p, 7, []int64{20, 3}, impl.ErrZero)
	}
}

func TestP4EvaluateErrors(t *testing.T) {
	p := reading(t, "f 2: (x0 / x1)\ng 0: 1\n")
	invalid := program(function("f", 2, tree(impl.KDiv, variable(0), variable(2))))
	for _, f := range outside(2) {
		refuseRun(t, p, f, []int64{1, 1}, impl.ErrRange)
		refuseRun(t, p, f, nil, impl.ErrRange)
		refuseRun(t, invalid, f, []int64{1, 1}, impl.ErrInvalid)
	}
	for _, args := range [][]int64{nil, {}, {1}, {1, 1, 1}, {1, 0, 1}, {-1, 1}, {1, -1}, {impl.P, 1}, {1, impl.P}, {0, 1 << 40}, {-1, 0}, {impl.P, 0}} {
		refuseRun(t, p, 0, args, impl.ErrRange)
		refuseRun(t, invalid, 0, args, impl.ErrInvalid)
	}
	refuseRun(t, p, 1, []int64{1}, impl.ErrRange)
	refuseRun(t, p, 0, []int64{1, 0}, impl.ErrZero)
	refuseRun(t, invalid, 0, []int64{1, 1}, impl.ErrInvalid)
	refuseRun(t, impl.Program{}, 0, nil, impl.ErrRange)
	expectRun(t, p, 0, []int64{1000002, 1000002}, []int64{1}, 3)
}

// budget is a program whose function f does first, then so many steps, which are
// from 2789 to 3100, and then last.
func budget(t *testing.T, first string, steps int, last string) impl.Program {
	t.Helper()
	body, rest := textOf(impl.Program{}, flat(398)), textOf(impl.Program{}, flat(steps-2788))
	return reading(t, "h 1: "+body+"\nf 1: "+first+"h.0^7(0) | "+rest+last+"\n")
}

func TestP4Budget(t *testing.T) {
	for _, c := range []struct {
		first string
		steps int
		last  string
		arg   int64
		want  int64
	}{
		{"", 2999, "", 0, impl.OK}, {"", 3000, "", 0, impl.OK}, {"", 3001, "", 0, impl.ErrBudget}, {"", 3100, "", 0, impl.ErrBudget},
		{"", 2999, " | x0", 0, impl.OK}, {"", 3000, " | x0", 0, impl.ErrBudget}, {"x0 | ", 2999, "", 0, impl.OK}, {"x0 | ", 3000, "", 0, impl.ErrBudget},
		{"", 2998, " | neg(x0)", 0, impl.OK}, {"", 2999, " | neg(x0)", 0, impl.ErrBudget}, {"", 2997, " | if(x0; x0; 1)", 0, impl.OK}, {"", 2998, " | if(x0; x0; 1)", 0, impl.ErrBudget},
		{"", 2997, " | let(x0; x1)", 0, impl.OK}, {"", 2998, " | let(x0; x1)", 0, impl.ErrBudget}, {"", 2800, " | x0 | if(0; 1; h.0(0))", 0, impl.OK},
		{"", 2998, " | h.0^0(x0)", 0, impl.OK}, {"", 2999, " | h.0^0(x0)", 0, impl.ErrBudget}, {"h.0(0) | ", 2800, "", 0, impl.ErrBudget},
		{"", 2997, " | (1 / x0)", 1, impl.OK}, {"", 2997, " | (1 / x0)", 0, impl.ErrZero}, {"", 2998, " | (1 / x0)", 0, impl.ErrBudget}, {"", 2999, " | (1 / x0)", 0, impl.ErrBudget}, {"", 3000, " | (1 / x0)", 0, impl.ErrBudget},
		{"(1 / x0) | ", 3100, "", 0, impl.ErrZero}, {"(1 / x0) | ", 2997, "", 1, impl.OK}, {"(1 / x0) | ", 2998, "", 1, impl.ErrBudget}, {"", 3000, " | (1 / x0)", 1, impl.ErrBudget},
		{"", 2992, " | (if(x0; 1; 2) / (x0 * 3))", 0, impl.ErrZero}, {"", 2993, " | (if(x0; 1; 2) / (x0 * 3))", 0, impl.ErrZero}, {"", 2994, " | (if(x0; 1; 2) / (x0 * 3))", 0, impl.ErrBudget},
	} {
		p := budget(t, c.first, c.steps, c.last)
		have, steps, code := impl.Evaluate(p, 1, []int64{c.arg})
		if code != c.want || code != impl.OK && (steps != 0 || len(have) != 0) {
			t.Errorf("%q, %d steps, %q: %v by %d steps with the code %d, want %d", c.first, c.steps, c.last, have, steps, code, c.want)
		}
	}
	for steps := 2990; steps <= impl.MaxSteps; steps++ {
		if _, have, code := impl.Evaluate(budget(t, "", steps, ""), 1, []int64{0}); have != int64(steps) || code != impl.OK {
			t.Errorf("%d steps with the code %d, want %d", have, code, steps)
		}
	}
}

func TestP4LoopsInLoopsEnd(t *testing.T) {
	text := "a 1: (x0 + 1)\n"
	for k := range impl.MaxFuncs - 1 {
		name := string([]byte{'a' + byte(k)})
		text += string([]byte{'b' + byte(k)}) + " 1: " + name + ".0^8(" + name + ".0^8(x0))\n"
	}
	p := reading(t, text)
	expectRun(t, p, 1, []int64{0}, []int64{16}, 51)
	for f := int64(3); f < impl.MaxFuncs; f++ {
		refuseRun(t, p, f, []int64{0}, impl.ErrBudget)
	}
}

// reckoning is another evaluation of functions, which panics with the code of an
// error.
type reckoning struct {
	p     impl.Program
	steps int64
}

func (r *reckoning) value(e impl.Expr, vars []int64) int64 {
	if r.steps++; r.steps > impl.MaxSteps {
		panic(int64(impl.ErrBudget))
	}
	if e.Kind == impl.KIf {
		if r.value(e.Kids[0], vars) == 0 {
			return r.value(e.Kids[1], vars)
		}
		return r.value(e.Kids[2], vars)
	}
	var kids []int64
	for _, kid := range e.Kids {
		kids = append(kids, r.value(kid, slices.Concat(vars, kids[:min(len(kids), letsOf(e))])))
	}
	switch e.Kind {
	case impl.KNum:
		return e.Num
	case impl.KVar:
		return vars[e.Num]
	case impl.KLet:
		return kids[1]
	case impl.KCall:
		return r.value(r.p.Funcs[e.Num].Outs[e.Pick], kids)
	case impl.KLoop:
		for range e.Count {
			kids = r.outs(e.Num, kids)
		}
		return kids[e.Pick]
	}
	return arithmetic(e.Kind, kids)
}

func letsOf(e impl.Expr) int {
	if e.Kind == impl.KLet {
		return 1
	}
	return 0
}

func (r *reckoning) outs(f int64, args []int64) []int64 {
	var list []int64
	for _, out := range r.p.Funcs[f].Outs {
		list = append(list, r.value(out, args))
	}
	return list
}

func arithmetic(kind int64, kids []int64) int64 {
	result, prime := big.NewInt(kids[0]), big.NewInt(impl.P)
	switch kind {
	case impl.KAdd:
		result.Add(result, big.NewInt(kids[1]))
	case impl.KSub:
		result.Sub(result, big.NewInt(kids[1]))
	case impl.KMul:
		result.Mul(result, big.NewInt(kids[1]))
	case impl.KNeg:
		result.Neg(result)
	case impl.KDiv:
		if kids[1] == 0 {
			panic(int64(impl.ErrZero))
		}
		result.Mul(result, new(big.Int).ModInverse(big.NewInt(kids[1]), prime))
	}
	return exact(result)
}

// reckoned is what Evaluate has to return.
func reckoned(p impl.Program, f int64, args []int64) (outs []int64, steps, code int64) {
	defer func() {
		if fault := recover(); fault != nil {
			outs, steps, code = nil, 0, fault.(int64)
		}
	}()
	r := &reckoning{p: p}
	outs = r.outs(f, args)
	return outs, r.steps, impl.OK
}

func TestP4EvaluationOfManyPrograms(t *testing.T) {
	codes := map[int64]int{}
	for seed := range int64(1500) {
		v := inventions(seed)
		p := v.program(1 + int(seed)%impl.MaxFuncs)
		for f := range p.Funcs {
			args := v.numbers(p.Funcs[f].Params)
			want, wanted, code := reckoned(p, int64(f), args)
			codes[code]++
			if code == impl.OK {
				expectRun(t, p, int64(f), args, want, wanted)
			} else {
				refuseRun(t, p, int64(f), args, code)
			}
		}
	}
	if codes[impl.OK] < 1000 || codes[impl.ErrZero] < 1000 || codes[impl.ErrBudget] < 50 {
		t.Errorf("the codes occur so often: %v", codes)
	}
}

// evaluated has the values and the steps of a function, if it has values.
func evaluated(p impl.Program, f int64, args []int64) ([]int64, int64, bool) {
	outs, steps, code := impl.Evaluate(p, f, args)
	return outs, steps, code == impl.OK
}

// TestP4CallsAndLoopsAreWhatTheyExecute evaluates functions of one node and what
// this node executes.
func TestP4CallsAndLoopsAreWhatTheyExecute(t *testing.T) {
	done := 0
	for seed := range int64(400) {
		v := inventions(seed)
		p := v.program(4)
		f := p.Funcs[3]
		args := v.numbers(f.Params)
		var vars []impl.Expr
		for k := range f.Params {
			vars = append(vars, variable(k))
		}
		for pick, out := range f.Outs {
			single := program(append(slices.Clone(p.Funcs[:3]), function("q", f.Params, out), function("r", f.Params, calling(3, 0, vars...)))...)
			want, steps, ok := evaluated(single, 3, args)
			if ok && steps+f.Params < impl.MaxSteps {
				done++
				expectRun(t, single, 4, args, want, steps+f.Params+1)
			}
			if f.Params == int64(len(f.Outs)) {
				checkLoops(t, p, vars, args, int64(pick))
			}
		}
	}
	if done < 100 {
		t.Errorf("%d calls", done)
	}
}

func checkLoops(t *testing.T, p impl.Program, vars []impl.Expr, args []int64, pick int64) {
	t.Helper()
	list, steps := args, int64(len(args))+1
	for count := range int64(impl.MaxCount + 1) {
		q := program(append(slices.Clone(p.Funcs), function("r", int64(len(vars)), looping(3, pick, count, vars...)))...)
		if steps <= impl.MaxSteps {
			expectRun(t, q, 4, args, list[pick:pick+1], steps)
		}
		next, more, ok := evaluated(p, 3, list)
		if !ok {
			return
		}
		list, steps = next, steps+more
	}
}

// TestP4LetsAreFunctionsWithOneMoreParam evaluates a let, and its second kid as a
// function that has the value of the first one as its last argument.
func TestP4LetsAreFunctionsWithOneMoreParam(t *testing.T) {
	done := 0
	for seed := range int64(600) {
		v := inventions(seed)
		before := v.program(2).Funcs
		params := v.Int63n(3)
		v.nodes = 80
		first, second := v.expr(params, 5), v.expr(params+1, 5)
		p := program(append(slices.Clone(before), function("p", params, first), function("q", params+1, second), function("r", params, let(first, second)))...)
		args := v.numbers(params)
		value, steps, ok := evaluated(p, 2, args)
		if !ok {
			continue
		}
		want, more, ok := evaluated(p, 3, append(slices.Clone(args), value[0]))
		if ok && steps+more < impl.MaxSteps {
			done++
			expectRun(t, p, 4, args, want, steps+more+1)
		}
	}
	if done < 100 {
		t.Errorf("%d lets", done)
	}
}

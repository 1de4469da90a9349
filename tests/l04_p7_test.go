package tests

import (
	"fmt"
	"slices"
	"strings"
	"testing"

	"loop.example/g01091/impl"
)

func TestP7Example(t *testing.T) {
	p := reading(t, exampleText)
	tape := recorded(t, p, 1, []int64{3, 2})
	sameTapes(t, "the example", tape, taped(t, exampleTape))
	sameNumber(t, "the number of instructions", int64(len(tape.Code)), 6)
	same(t, "RunTape", fine(t)(impl.RunTape(tape, []int64{3, 2})), []int64{11, 16})
	same(t, "RegistersOf", fine(t)(impl.RegistersOf(tape, []int64{3, 2})), []int64{3, 2, 9, 11, 4, 16})
	same(t, "CountOps", fine(t)(impl.CountOps(tape)), []int64{2, 0, 1, 0, 3, 0, 0})
}

// TestP7RecordingByHand has the code, the guards and the outs of functions of the
// params 0 and 1, at the arguments 20 and 0.
func TestP7RecordingByHand(t *testing.T) {
	const before = "sq 1: (x0 * x0)\nrot 2: neg(x1) | x0\none 0: 1\nchoose 3: if(x0; x1; x2)\n"
	for _, c := range []struct{ text, code string }{
		{"x0", "out 0"}, {"x1 | x1 | x0", "out 1 1 0"}, {"7", "num 7;out 2"}, {"7 | 7", "num 7;num 7;out 2 3"}, {"1000002 | x0 | 0", "num 1000002;num 0;out 2 0 3"},
		{"(x0 + x1)", "add 0 1;out 2"}, {"(x1 - x0)", "sub 1 0;out 2"}, {"(x0 * x0)", "mul 0 0;out 2"}, {"(x1 / x0)", "div 1 0;out 2"}, {"neg(x1)", "neg 1;out 2"}, {"neg(neg(x0))", "neg 0;neg 2;out 3"},
		{"((x0 + 1) * (2 - x1))", "num 1;add 0 2;num 2;sub 4 1;mul 3 5;out 6"}, {"(neg(x0) / neg(x0))", "neg 0;neg 0;div 2 3;out 4"}, {"(1 / 3)", "num 1;num 3;div 2 3;out 4"},
		{"let(x0; x2)", "out 0"}, {"let(x0; (x2 * x2))", "mul 0 0;out 2"}, {"let((x0 + x1); (x2 * x2))", "add 0 1;mul 2 2;out 3"}, {"let(5; x0)", "num 5;out 0"}, {"let(neg(x0); let((x2 * x2); (x3 - x2)))", "neg 0;mul 2 2;sub 3 2;out 4"}, {"(let(1; x2) + let(2; x2))", "num 1;num 2;add 2 3;out 4"},
		{"if(x1; x0; 5)", "zero 1;out 0"}, {"if(x0; 5; x1)", "other 0;out 1"}, {"if(0; 5; 6)", "num 0;num 5;zero 2;out 3"}, {"if((x0 - 20); (x0 + 1); 6)", "num 20;sub 0 2;num 1;add 0 4;zero 3;out 5"}, {"if(neg(x0); (1 / 0); neg(x1))", "neg 0;neg 1;other 2;out 3"},
		{"if(if(x1; x0; 7); 8; 9)", "num 9;zero 1;other 0;out 2"}, {"if(if(x0; x0; x1); if(x1; 8; 9); 10)", "num 8;other 0;zero 1;zero 1;out 2"}, {"if(if(if(x0; 1; 0); x1; x0); 4; 3)", "num 0;num 4;other 0;zero 2;zero 1;out 3"}, {"if((if(x0; 1; x1) + if(x1; x0; 2)); 3; 4)", "add 1 0;num 4;other 0;zero 1;other 2;out 3"},
		{"if(let(if(x0; 1; x1); (x2 * x0)); x1; x0)", "mul 1 0;other 0;zero 2;out 1"}, {"if(x0; 1; if(x0; 2; if(x1; 3; 4)))", "num 3;other 0;other 0;zero 1;out 2"}, {"(if(x1; x1; 2) + if(x1; x0; 2))", "add 1 0;zero 1;zero 1;out 2"}, {"if(x1; 1; 2) | if(x0; 1; 2)", "num 1;num 2;zero 1;other 0;out 2 3"},
		{"sq.0(x0)", "mul 0 0;out 2"}, {"sq.0((x0 + 1))", "num 1;add 0 2;mul 3 3;out 4"}, {"rot.0(x0; x1)", "neg 1;out 2"}, {"rot.1(x0; x1)", "out 0"}, {"rot.1(3; 4)", "num 3;num 4;out 2"}, {"one.0()", "num 1;out 2"}, {"(one.0() + one.0())", "num 1;num 1;add 2 3;out 4"}, {"choose.0(x0; x1; x1)", "other 0;out 1"}, {"choose.0(if(x1; x1; x0); sq.0(x0); 1)", "mul 0 0;num 1;zero 1;zero 1;out 2"},
		{"sq.0^0(x1)", "out 1"}, {"sq.0^0(7)", "num 7;out 2"}, {"sq.0^1(x1)", "mul 1 1;out 2"}, {"sq.0^3(x0)", "mul 0 0;mul 2 2;mul 3 3;out 4"}, {"rot.0^0(x0; neg(x1))", "neg 1;out 0"}, {"rot.1^1(x0; x1)", "neg 1;out 0"}, {"rot.1^3(x0; x1)", "neg 1;neg 0;neg 2;out 3"}, {"choose.0(rot.0^2(x0; x1); 1; 2)", "neg 1;neg 0;num 1;num 2;other 3;out 5"},
		{"let(rot.1^1(x0; x1); rot.1^1(x2; x2))", "neg 1;neg 0;out 0"},
	} {
		p := reading(t, before+"f 2: "+c.text+"\n")
		want := "tape 2\nin 0\nin 1\n" + strings.ReplaceAll(c.code, ";", "\n") + "\n"
		tape := recorded(t, p, 4, []int64{20, 0})
		if have := impl.TapeText(tape); have != want {
			t.Errorf("%s is recorded as\n%s, want\n%s", c.text, have, want)
		}
	}
	p := reading(t, "f 0: 4 | (4 * 4)\ng 1: 5\nh 12: x11\n")
	sameTapes(t, "no params", recorded(t, p, 0, nil), taped(t, "tape 0\nnum 4\nnum 4\nnum 4\nmul 1 2\nout 0 3\n"))
	sameTapes(t, "a param that is not used", recorded(t, p, 1, []int64{9}), taped(t, "tape 1\nin 0\nnum 5\nout 1\n"))
	sameTapes(t, "most params", recorded(t, p, 2, make([]int64, 12)), taped(t, "tape 12\nin 0\nin 1\nin 2\nin 3\nin 4\nin 5\nin 6\nin 7\nin 8\nin 9\nin 10\nin 11\nout 11\n"))
}

// tapeReckoning is another recording, which panics with the code of an error.
type tapeReckoning struct {
	p      impl.Program
	tape   impl.Tape
	values []int64
	steps  int64
}

func (r *tapeReckoning) write(instr impl.Instr, value int64) int64 {
	r.tape.Code, r.values = append(r.tape.Code, instr), append(r.values, value)
	return int64(len(r.values)) - 1
}

func (r *tapeReckoning) register(e impl.Expr, vars []int64) int64 {
	if r.steps++; r.steps > impl.MaxSteps {
		panic(int64(impl.ErrBudget))
	}
	if e.Kind == impl.KIf {
		condition := r.register(e.Kids[0], vars)
		zero := r.values[condition] == 0
		r.tape.Guards = append(r.tape.Guards, guard(condition, zero))
		return r.register(e.Kids[map[bool]int{true: 1, false: 2}[zero]], vars)
	}
	var kids []int64
	for _, kid := range e.Kids {
		kids = append(kids, r.register(kid, slices.Concat(vars, kids[:min(len(kids), letsOf(e))])))
	}
	switch e.Kind {
	case impl.KNum:
		return r.write(tapeNum(e.Num), e.Num)
	case impl.KVar:
		return vars[e.Num]
	case impl.KLet:
		return kids[1]
	case impl.KCall:
		return r.register(r.p.Funcs[e.Num].Outs[e.Pick], kids)
	case impl.KLoop:
		for range e.Count {
			kids = r.outs(e.Num, kids)
		}
		return kids[e.Pick]
	}
	for _, op := range ops() {
		if kindOfOp(op) == e.Kind {
			return r.write(tapeOf(op, kids[0], append(kids, 0)[1]), arithmetic(e.Kind, picked(r.values, kids)))
		}
	}
	panic("an expression of no kind")
}

func (r *tapeReckoning) outs(f int64, args []int64) []int64 {
	var list []int64
	for _, out := range r.p.Funcs[f].Outs {
		list = append(list, r.register(out, args))
	}
	return list
}

// reckonedTape is what Record has to return.
func reckonedTape(p impl.Program, f int64, args []int64) (tape impl.Tape, code int64) {
	defer func() {
		if fault := recover(); fault != nil {
			tape, code = impl.Tape{}, fault.(int64)
		}
	}()
	r := &tapeReckoning{p: p, tape: impl.Tape{Inputs: p.Funcs[f].Params}}
	var inputs []int64
	for k, arg := range args {
		inputs = append(inputs, r.write(tapeIn(int64(k)), arg))
	}
	r.tape.Outs = r.outs(f, inputs)
	return r.tape, impl.OK
}

func TestP7RecordingOfManyPrograms(t *testing.T) {
	codes := map[int64]int{}
	for seed := range int64(800) {
		v := inventions(seed + 70000)
		p := v.program(1 + int(seed)%impl.MaxFuncs)
		for f := range p.Funcs {
			args := v.numbers(p.Funcs[f].Params)
			want, wanted := reckonedTape(p, int64(f), args)
			have, code := impl.Record(p, int64(f), args)
			codes[code]++
			if code != wanted || !impl.SameTape(have, want) || impl.ValidTape(have) != (code == impl.OK) {
				t.Fatalf("%s at %v is recorded as %s with the code %d, want %s with the code %d", textOfProgram(p), args, brief(have), code, brief(want), wanted)
			}
		}
	}
	if codes[impl.OK] < 1000 || codes[impl.ErrZero] < 1000 || codes[impl.ErrBudget] < 50 {
		t.Errorf("the codes occur so often: %v", codes)
	}
}

// TestP7TapesRunAsTheirFunctions runs tapes where they are recorded and elsewhere.
// Where a guard does not hold, the function is recorded as another tape.
func TestP7TapesRunAsTheirFunctions(t *testing.T) {
	counts := map[string]int{}
	for seed := range int64(700) {
		v, p, args := differentiable(seed + 1000)
		f := int64(len(p.Funcs) - 1)
		tape := recorded(t, p, f, args)
		if hold, code := impl.GuardsHold(tape, args); !hold || code != impl.OK {
			t.Fatalf("the guards of %s do not hold where it is recorded", impl.TapeText(tape))
		}
		values, _, _ := evaluated(p, f, args)
		same(t, "RunTape where it is recorded", fine(t)(impl.RunTape(tape, args)), values)
		for range 12 {
			other := v.numbers(int64(len(args)))
			want, _, code := impl.Evaluate(p, f, other)
			hold, held := impl.GuardsHold(tape, other)
			switch {
			case held != impl.OK:
				counts["zero"]++
				checkZeroElsewhere(t, tape, p, f, other, code)
			case hold:
				counts["hold"]++
				sameNumber(t, "the code of Evaluate", code, impl.OK)
				same(t, "RunTape where the guards hold", fine(t)(impl.RunTape(tape, other)), want)
				sameTapes(t, "Record where the guards hold", recorded(t, p, f, other), tape)
				checkSameDerivatives(t, v, tape, p, f, other)
			default:
				counts["other"]++
				if elsewhere, code := impl.Record(p, f, other); code == impl.OK && impl.SameTape(elsewhere, tape) {
					t.Errorf("a guard of %s does not hold at %v, where it is recorded", impl.TapeText(tape), other)
				}
			}
		}
	}
	if counts["hold"] < 2000 || counts["zero"] < 20 || counts["other"] < 200 {
		t.Errorf("so often guards hold and divisors are 0: %v", counts)
	}
}

// checkZeroElsewhere checks the errors of a tape at arguments at which a divisor
// is 0: then the function divides by 0 as well, or does something else before.
func checkZeroElsewhere(t *testing.T, tape impl.Tape, p impl.Program, f int64, args []int64, code int64) {
	t.Helper()
	if code == impl.ErrZero {
		return
	}
	if elsewhere, code := impl.Record(p, f, args); code == impl.OK && impl.SameTape(elsewhere, tape) {
		t.Errorf("%s divides by 0 at %v, where it is recorded", impl.TapeText(tape), args)
	}
}

// checkSameDerivatives compares the derivatives and the series of a tape with those
// of its function.
func checkSameDerivatives(t *testing.T, v *invention, tape impl.Tape, p impl.Program, f int64, args []int64) {
	t.Helper()
	dir := v.numbers(int64(len(args)))
	values, slopes, code := impl.Directional(p, f, args, dir)
	outs, along, taped := impl.TapeForward(tape, args, dir)
	sameNumber(t, "the code of TapeForward", taped, code)
	same(t, "the values of TapeForward", outs, values)
	same(t, "the slopes of TapeForward", along, slopes)
	path := v.series(int64(len(args)), v.Int63n(6))
	for k := range path {
		path[k][0] = args[k]
	}
	sameRows(t, "TapeSeries", fineRows(t)(impl.TapeSeries(tape, path)), fineRows(t)(impl.EvaluateSeries(p, f, path)))
}

// TestP7GuardsByHand has guards on inputs, numbers and outs, the same guard twice,
// and such that cannot hold together.
func TestP7GuardsByHand(t *testing.T) {
	const code = "tape 2\nin 0\nin 1\nnum 0\nnum 4\nsub 0 1\n"
	for _, c := range []struct {
		guards           string
		same, zero, none bool // whether they hold for the arguments 3 3, 0 1 and 0 0
	}{
		{"", true, true, true}, {"zero 0\n", false, true, true}, {"other 0\n", true, false, false}, {"zero 1\n", false, false, true}, {"other 1\n", true, true, false},
		{"zero 2\n", true, true, true}, {"other 2\n", false, false, false}, {"zero 3\n", false, false, false}, {"other 3\n", true, true, true}, {"zero 4\n", true, false, true}, {"other 4\n", false, true, false},
		{"zero 4\nzero 4\n", true, false, true}, {"other 0\nother 0\nother 0\n", true, false, false}, {"zero 0\nother 0\n", false, false, false}, {"other 4\nzero 4\n", false, false, false},
		{"zero 4\nother 0\n", true, false, false}, {"zero 0\nother 1\n", false, true, false}, {"zero 4\nzero 0\n", false, false, true}, {"zero 2\nother 3\nzero 4\nzero 2\n", true, false, true},
	} {
		tape := taped(t, code+c.guards+"out 4 0\n")
		for _, at := range []struct {
			args []int64
			want bool
		}{{[]int64{3, 3}, c.same}, {[]int64{0, 1}, c.zero}, {[]int64{0, 0}, c.none}} {
			if hold, code := impl.GuardsHold(tape, at.args); hold != at.want || code != impl.OK {
				t.Errorf("the guards %q at %v: %v with the code %d", c.guards, at.args, hold, code)
			}
			same(t, "RunTape", fine(t)(impl.RunTape(tape, at.args)), []int64{impl.Residue(at.args[0] - at.args[1]), at.args[0]})
		}
	}
}

// TestP7GuardsWithDivisions have a divisor that is 0, ahead of the register of the
// guard or behind it, also if no out needs it.
func TestP7GuardsWithDivisions(t *testing.T) {
	for _, text := range []string{
		"tape 1\nin 0\nnum 1\ndiv 1 0\nother 0\nout 2\n", "tape 1\nin 0\nnum 1\ndiv 1 0\nzero 0\nout 2\n", "tape 1\nin 0\nnum 1\ndiv 1 0\nzero 1\nout 1\n", "tape 1\nin 0\ndiv 0 0\nother 1\nout 0\n", "tape 1\nin 0\ndiv 0 0\nout 0\n",
		"tape 1\nnum 6\nin 0\nmul 1 1\ndiv 0 2\nzero 1\nzero 1\nout 0\n",
	} {
		tape := taped(t, text)
		expectTapeCodes(t, tapeQuestionAt(tape, 0), impl.ErrZero)
		q := tapeQuestionAt(tape, 0)
		q.path = [][]int64{{0}}
		expectTapeCode(t, tapeFunctionNamed("TapeSeries"), q, impl.ErrZero)
		q = tapeQuestionAt(tape, 5)
		expectTapeCodes(t, q, impl.OK)
		want := !strings.Contains(text, "zero")
		if hold, _ := impl.GuardsHold(tape, []int64{5}); hold != want {
			t.Errorf("the guards of %q hold at 5: %v", text, hold)
		}
	}
}

// TestP7RecordErrors are those of Evaluate.
func TestP7RecordErrors(t *testing.T) {
	p := reading(t, "f 2: (x0 / x1)\ng 0: 1\n")
	invalid := program(function("f", 2, tree(impl.KDiv, variable(0), variable(2))))
	record := tapeFunctionNamed("Record")
	for _, f := range outside(2) {
		expectTapeCode(t, record, tapeQuestion{p: p, f: f, args: []int64{1, 1}}, impl.ErrRange)
		expectTapeCode(t, record, tapeQuestion{p: invalid, f: f, args: []int64{1, 1}}, impl.ErrInvalid)
	}
	for _, args := range faultyNumbers(2) {
		expectTapeCode(t, record, tapeQuestion{p: p, args: args}, impl.ErrRange)
		expectTapeCode(t, record, tapeQuestion{p: invalid, args: args}, impl.ErrInvalid)
	}
	expectTapeCode(t, record, tapeQuestion{p: p, args: []int64{1, 0}}, impl.ErrZero)
	expectTapeCode(t, record, tapeQuestion{p: p, f: 1, args: []int64{1}}, impl.ErrRange)
	expectTapeCode(t, record, tapeQuestion{p: p, f: 1}, impl.OK)
	expectTapeCode(t, record, tapeQuestion{}, impl.ErrRange)
	for _, c := range []struct {
		steps int
		last  string
		arg   int64
		want  int64
	}{
		{3000, "", 0, impl.OK}, {3001, "", 0, impl.ErrBudget}, {2999, " | x0", 0, impl.OK}, {3000, " | x0", 0, impl.ErrBudget}, {2998, " | neg(x0)", 0, impl.OK}, {2999, " | neg(x0)", 0, impl.ErrBudget}, {2997, " | if(x0; x0; 1)", 0, impl.OK}, {2998, " | if(x0; x0; 1)", 0, impl.ErrBudget},
		{2997, " | (1 / x0)", 1, impl.OK}, {2997, " | (1 / x0)", 0, impl.ErrZero}, {2998, " | (1 / x0)", 0, impl.ErrBudget},
	} {
		expectTapeCode(t, record, tapeQuestion{p: budget(t, "", c.steps, c.last), f: 1, args: []int64{c.arg}}, c.want)
	}
	longest := recorded(t, budget(t, "", 3000, ""), 1, []int64{5})
	if len(longest.Code) < 2900 || !impl.ValidTape(longest) {
		t.Errorf("%d instructions of 3000 steps", len(longest.Code))
	}
}

// TestP7MostInstructionsOfATape records 12 inputs and one instruction with almost
// each of the steps.
func TestP7MostInstructionsOfATape(t *testing.T) {
	numbers, vars := strings.Repeat("1 | ", 11)+"1", strings.TrimPrefix(strings.Repeat("; x0", 12), "; ")
	text := "a 12: " + numbers + "\n" + "b 12: a.0^8(" + vars + ")" + strings.Repeat(" | a.0^8("+vars+")", 11) + "\n" + "f 12: b.0^2(" + vars + ")" + strings.Repeat(" | 1", 11) + "\n"
	p := reading(t, text)
	args := constant(11, 3)
	tape := recorded(t, p, 2, args)
	want, _ := reckonedTape(p, 2, args)
	sameTapes(t, "a long loop", tape, want)
	if len(tape.Code) < 2300 {
		t.Errorf("%d instructions", len(tape.Code))
	}
	same(t, "a long loop", fine(t)(impl.RunTape(tape, make([]int64, 12))), constant(11, 1))
}

// TestP7ManyTapesRun compares with polynomials of degree 0 and of one variable.
func TestP7ManyTapesRun(t *testing.T) {
	codes := map[int64]int{}
	for seed := range int64(900) {
		v := inventions(seed + 300)
		inputs := v.Int63n(4)
		tape := v.tape(inputs, 1+v.Intn(30))
		args, dir := v.numbers(inputs), v.numbers(inputs)
		registers, code := jetsOfTape(tape, jetsAlong(args, dir, -1), 1, -1)
		codes[code]++
		q := tapeQuestionAt(tape, args...)
		q.dir = dir
		expectTapeCodes(t, q, code)
		if code == impl.OK {
			checkRun(t, v, q, registers)
		}
	}
	if codes[impl.OK] < 400 || codes[impl.ErrZero] < 100 {
		t.Errorf("the codes occur so often: %v", codes)
	}
}

func checkRun(t *testing.T, v *invention, q tapeQuestion, registers []jet) {
	t.Helper()
	var values, slopes []int64
	for _, register := range registers {
		values, slopes = append(values, register.derivative()), append(slopes, register.derivative(0))
	}
	same(t, "RegistersOf", fine(t)(impl.RegistersOf(q.t, q.args)), values)
	same(t, "RunTape", fine(t)(impl.RunTape(q.t, q.args)), picked(values, q.t.Outs))
	outs, along, _ := impl.TapeForward(q.t, q.args, q.dir)
	same(t, "the values of TapeForward", outs, picked(values, q.t.Outs))
	same(t, "the slopes of TapeForward", along, picked(slopes, q.t.Outs))
	want := true
	for _, guard := range q.t.Guards {
		want = want && guard.Zero == (values[guard.Reg] == 0)
	}
	if hold, _ := impl.GuardsHold(q.t, q.args); hold != want {
		t.Errorf("the guards of %s at %v: %v", impl.TapeText(q.t), q.args, hold)
	}
	order := v.Int63n(impl.MaxOrder + 1)
	if q.t.Inputs == 0 {
		order = 0
	}
	path, jets := v.series(q.t.Inputs, order), []jet{}
	for k := range path {
		path[k][0] = q.args[k]
		jets = append(jets, jetOf(path[k]))
	}
	registers, _ = jetsOfTape(q.t, jets, order, -1)
	var rows [][]int64
	for _, out := range q.t.Outs {
		rows = append(rows, registers[out].seriesOf(order))
	}
	sameRows(t, "TapeSeries", fineRows(t)(impl.TapeSeries(q.t, path)), rows)
}

// TestP7SeriesThatBeginWithZero are no divisors.
func TestP7SeriesThatBeginWithZero(t *testing.T) {
	tape := taped(t, "tape 1\nin 0\nnum 1\ndiv 1 0\nneg 0\nout 2 3\n")
	for order := range impl.MaxOrder + 1 {
		_, code := impl.TapeSeries(tape, [][]int64{beginning(constant(order, 7), 0)})
		sameNumber(t, "the code of TapeSeries", code, impl.ErrZero)
		rows := fineRows(t)(impl.TapeSeries(tape, [][]int64{unit(order, 0)}))
		sameRows(t, fmt.Sprint("the order ", order), rows, [][]int64{unit(order, 0), beginning(make([]int64, order+1), impl.P-1)})
	}
}

// TestP7TapesWithoutInputs have series of the order 0.
func TestP7TapesWithoutInputs(t *testing.T) {
	tape := taped(t, "tape 0\nnum 3\nnum 4\ndiv 0 1\nother 0\nout 1 2 1\n")
	same(t, "RunTape", fine(t)(impl.RunTape(tape, nil)), []int64{4, 750003, 4})
	same(t, "RegistersOf", fine(t)(impl.RegistersOf(tape, []int64{})), []int64{3, 4, 750003})
	sameRows(t, "TapeSeries", fineRows(t)(impl.TapeSeries(tape, nil)), [][]int64{{4}, {750003}, {4}})
	outs, slopes, code := impl.TapeForward(tape, nil, nil)
	sameNumber(t, "the code of TapeForward", code, impl.OK)
	same(t, "the values", outs, []int64{4, 750003, 4})
	same(t, "the slopes", slopes, []int64{0, 0, 0})
	same(t, "TapeReverse", fine(t)(impl.TapeReverse(tape, nil, []int64{1, 1, 1})), nil)
	same(t, "TapeHessian", fine(t)(impl.TapeHessian(tape, nil, []int64{1, 1, 1}, nil)), nil)
	same(t, "AdjointsOf", fine(t)(impl.AdjointsOf(tape, nil, []int64{1, 8, 1})), []int64{2, 500002, 8})
	same(t, "InputsOf", fine(t)(impl.InputsOf(tape, 2)), nil)
}

package tests

import (
	"fmt"
	"slices"
	"testing"

	"loop.example/g01091/impl"
)

// tapeQuestion has arguments for all functions of chapter 4.
type tapeQuestion struct {
	t, other           impl.Tape
	p                  impl.Program
	f, reg             int64
	text               string
	args, dir, weights []int64
	path               [][]int64
}

// tapeFunction is a function of chapter 4 with the arguments that it has.
type tapeFunction struct {
	name string
	uses []string
	call func(q tapeQuestion) []any
}

// tapeFunctions are all functions of chapter 4.
func tapeFunctions() []tapeFunction {
	return append(runningFunctions(),
		tapeFunction{"ValidTape", []string{"t"}, func(q tapeQuestion) []any { return results(impl.ValidTape(q.t)) }},
		tapeFunction{"SameTape", []string{"t"}, func(q tapeQuestion) []any { return results(impl.SameTape(q.t, q.other)) }},
		tapeFunction{"TapeText", []string{"t"}, func(q tapeQuestion) []any { return results(impl.TapeText(q.t)) }},
		tapeFunction{"ReadTape", []string{"text"}, func(q tapeQuestion) []any {
			t, line, code := impl.ReadTape(q.text)
			return results(line, t, code)
		}},
		tapeFunction{"Record", []string{"p"}, func(q tapeQuestion) []any {
			t, code := impl.Record(q.p, q.f, q.args)
			return results(t, code)
		}},
		tapeFunction{"InputsOf", []string{"t", "reg"}, func(q tapeQuestion) []any {
			list, code := impl.InputsOf(q.t, q.reg)
			return results(list, code)
		}},
		tapeFunction{"CountOps", []string{"t"}, func(q tapeQuestion) []any {
			list, code := impl.CountOps(q.t)
			return results(list, code)
		}},
		shortening("TrimTape", impl.TrimTape),
		shortening("FoldTape", impl.FoldTape),
		shortening("ShareTape", impl.ShareTape),
		shortening("OptimizeTape", impl.OptimizeTape),
	)
}

func tapeFunctionNamed(name string) tapeFunction {
	list := tapeFunctions()
	return list[slices.IndexFunc(list, func(f tapeFunction) bool { return f.name == name })]
}

func shortening(name string, call func(t impl.Tape) (impl.Tape, int64)) tapeFunction {
	return tapeFunction{name, []string{"t"}, func(q tapeQuestion) []any {
		t, code := call(q.t)
		return results(t, code)
	}}
}

// runningFunctions are those of the section Running that run a tape.
func runningFunctions() []tapeFunction {
	return []tapeFunction{
		{"RunTape", []string{"t", "args"}, func(q tapeQuestion) []any {
			list, code := impl.RunTape(q.t, q.args)
			return results(list, code)
		}},
		{"RegistersOf", []string{"t", "args"}, func(q tapeQuestion) []any {
			list, code := impl.RegistersOf(q.t, q.args)
			return results(list, code)
		}},
		{"GuardsHold", []string{"t", "args"}, func(q tapeQuestion) []any {
			hold, code := impl.GuardsHold(q.t, q.args)
			return results(hold, code)
		}},
		{"TapeForward", []string{"t", "args", "dir"}, func(q tapeQuestion) []any {
			outs, slopes, code := impl.TapeForward(q.t, q.args, q.dir)
			return results(outs, slopes, code)
		}},
		{"TapeSeries", []string{"t", "path"}, func(q tapeQuestion) []any {
			rows, code := impl.TapeSeries(q.t, q.path)
			return results(rows, code)
		}},
		{"TapeReverse", []string{"t", "args", "weights"}, func(q tapeQuestion) []any {
			list, code := impl.TapeReverse(q.t, q.args, q.weights)
			return results(list, code)
		}},
		{"AdjointsOf", []string{"t", "args", "weights"}, func(q tapeQuestion) []any {
			list, code := impl.AdjointsOf(q.t, q.args, q.weights)
			return results(list, code)
		}},
		{"TapeHessian", []string{"t", "args", "dir", "weights"}, func(q tapeQuestion) []any {
			list, code := impl.TapeHessian(q.t, q.args, q.weights, q.dir)
			return results(list, code)
		}},
	}
}

// expectTapeCode fails the test unless a call has a code, and nothing beside it if
// this is an error.
func expectTapeCode(t *testing.T, f tapeFunction, q tapeQuestion, want int64) {
	t.Helper()
	have := f.call(q)
	if codeOf(have) != want {
		t.Errorf("%s of %s at %s: %s, want the code %d", f.name, brief(q.t), brief(q.args, q.path), brief(have), want)
	}
	if want != impl.OK && !nothingBeside(have) {
		t.Errorf("%s of %s at %s: %s beside the code %d", f.name, brief(q.t), brief(q.args, q.path), brief(have), want)
	}
}

// brief is the beginning of the text of some values.
func brief(values ...any) string {
	text := fmt.Sprint(values...)
	return text[:min(len(text), 300)]
}

// nothingBeside tells whether all results but the code are zero values.
func nothingBeside(results []any) bool {
	for _, result := range results[:len(results)-1] {
		switch result := result.(type) {
		case []int64:
			if len(result) > 0 {
				return false
			}
		case [][]int64:
			if len(result) > 0 {
				return false
			}
		case impl.Tape:
			if !impl.SameTape(result, impl.Tape{}) {
				return false
			}
		case bool:
			if result {
				return false
			}
		case int64:
			if result != 0 {
				return false
			}
		}
	}
	return true
}

// expectTapeCodes expects a code of all functions that run a tape.
func expectTapeCodes(t *testing.T, q tapeQuestion, want int64) {
	t.Helper()
	for _, f := range runningFunctions() {
		expectTapeCode(t, f, q, want)
	}
}

// tapeQuestionAt has valid arguments for a tape.
func tapeQuestionAt(tape impl.Tape, args ...int64) tapeQuestion {
	q := tapeQuestion{t: tape, other: tape, args: args, dir: slices.Clone(args), weights: constant(len(tape.Outs)-1, 1)}
	for _, arg := range args {
		q.path = append(q.path, []int64{arg, 1, 2})
	}
	return q
}

// taped is the tape with a text, which has to be one.
func taped(t *testing.T, text string) impl.Tape {
	t.Helper()
	tape, line, code := impl.ReadTape(text)
	if code != impl.OK || line != 0 {
		t.Fatalf("%q: the line %d has the code %d", text, line, code)
	}
	return tape
}

// recorded is the tape of an evaluation, which has to be possible.
func recorded(t *testing.T, p impl.Program, f int64, args []int64) impl.Tape {
	t.Helper()
	tape, code := impl.Record(p, f, args)
	if code != impl.OK {
		t.Fatalf("the function %d at %v is recorded with the code %d", f, args, code)
	}
	return tape
}

// fineTape passes a tape on if the code is OK.
func fineTape(t *testing.T) func(tape impl.Tape, code int64) impl.Tape {
	return func(tape impl.Tape, code int64) impl.Tape {
		t.Helper()
		if code != impl.OK || !impl.ValidTape(tape) {
			t.Fatalf("%s with the code %d", brief(tape), code)
		}
		return tape
	}
}

// sameTapes fails the test unless tapes are equal.
func sameTapes(t *testing.T, name string, have, want impl.Tape) {
	t.Helper()
	if !impl.SameTape(have, want) || textOfTape(have) != textOfTape(want) {
		t.Errorf("%s: have\n%s, want\n%s", name, textOfTape(have), textOfTape(want))
	}
}

func tapeIn(input int64) impl.Instr { return impl.Instr{Op: impl.OpIn, Num: input} }

func tapeNum(number int64) impl.Instr { return impl.Instr{Op: impl.OpNum, Num: number} }

func instr(op, a, b, num int64) impl.Instr { return impl.Instr{Op: op, A: a, B: b, Num: num} }

func guard(reg int64, zero bool) impl.Guard { return impl.Guard{Reg: reg, Zero: zero} }

func tapeWith(inputs int64, code []impl.Instr, guards []impl.Guard, outs ...int64) impl.Tape {
	return impl.Tape{Inputs: inputs, Code: code, Guards: guards, Outs: outs}
}

func tapeOf(op, a, b int64) impl.Instr { return impl.Instr{Op: op, A: a, B: b} }

// ops are all operations.
func ops() []int64 {
	return []int64{impl.OpIn, impl.OpNum, impl.OpAdd, impl.OpSub, impl.OpMul, impl.OpDiv, impl.OpNeg}
}

// operands is how many operands an operation has.
func operands(op int64) int {
	switch op {
	case impl.OpIn, impl.OpNum:
		return 0
	case impl.OpNeg:
		return 1
	}
	return 2
}

// operandsOf are the operands of an instruction.
func operandsOf(instr impl.Instr) []int64 {
	return []int64{instr.A, instr.B}[:operands(instr.Op)]
}

// textOfTape is the text of a tape, after the table of the document.
func textOfTape(tape impl.Tape) string {
	words := []string{"?", "in", "num", "add", "sub", "mul", "div", "neg"}
	text := fmt.Sprintf("tape %d\n", tape.Inputs)
	for _, instr := range tape.Code {
		switch operands(instr.Op) {
		case 0:
			text += fmt.Sprintln(words[instr.Op], instr.Num)
		case 1:
			text += fmt.Sprintln(words[instr.Op], instr.A)
		default:
			text += fmt.Sprintln(words[instr.Op], instr.A, instr.B)
		}
	}
	for _, guard := range tape.Guards {
		text += fmt.Sprintln(map[bool]string{true: "zero", false: "other"}[guard.Zero], guard.Reg)
	}
	text += "out"
	for _, out := range tape.Outs {
		text += fmt.Sprintf(" %d", out)
	}
	return text + "\n"
}

// copyOfTape is a copy of a tape that shares no memory with it.
func copyOfTape(tape impl.Tape) impl.Tape {
	tape.Code, tape.Guards, tape.Outs = slices.Clone(tape.Code), slices.Clone(tape.Guards), slices.Clone(tape.Outs)
	return tape
}

// tape makes a valid tape with so many instructions, in which registers are often
// used twice and many instructions are equal or have numbers as operands.
func (v *invention) tape(inputs int64, length int) impl.Tape {
	tape := impl.Tape{Inputs: inputs}
	for k := range int64(length) {
		op := ops()[v.Intn(len(ops()))]
		if op == impl.OpDiv && v.Intn(2) == 0 {
			op = impl.OpMul
		}
		if k == 0 || op == impl.OpNum || op == impl.OpIn && inputs == 0 {
			tape.Code = append(tape.Code, tapeNum(v.numbers(1)[0]))
			continue
		}
		instr := impl.Instr{Op: op}
		switch operands(op) {
		case 0:
			instr.Num = v.Int63n(inputs)
		case 1:
			instr.A = v.Int63n(k)
		default:
			instr.A, instr.B = v.Int63n(k), v.Int63n(k)
		}
		tape.Code = append(tape.Code, instr)
	}
	for range v.Intn(5) {
		tape.Guards = append(tape.Guards, impl.Guard{Reg: v.Int63n(int64(length)), Zero: v.Intn(3) == 0})
	}
	for range 1 + v.Intn(3) {
		tape.Outs = append(tape.Outs, v.Int63n(int64(length)))
	}
	return tape
}

// kindOfOp is the kind of expressions that does the same as an operation.
func kindOfOp(op int64) int64 {
	return map[int64]int64{
		impl.OpAdd: impl.KAdd, impl.OpSub: impl.KSub, impl.OpMul: impl.KMul, impl.OpDiv: impl.KDiv, impl.OpNeg: impl.KNeg,
	}[op]
}

// jetsOfTape are the polynomials of all registers, and OK. If free is the index of
// a register, the variable 2 is added to it.
func jetsOfTape(tape impl.Tape, args []jet, degree, free int64) (registers []jet, code int64) {
	defer func() {
		if fault := recover(); fault != nil {
			registers, code = nil, fault.(int64)
		}
	}()
	r := jetReckoning{degree: degree}
	for k, instr := range tape.Code {
		var value jet
		var kids []jet
		for _, operand := range operandsOf(instr) {
			kids = append(kids, registers[operand])
		}
		switch instr.Op {
		case impl.OpIn:
			value = args[instr.Num]
		case impl.OpNum:
			value = constantJet(instr.Num)
		default:
			value = r.arithmetic(kindOfOp(instr.Op), kids)
		}
		if int64(k) == free {
			value = value.plus(1, jet{unitOf(2): 1})
		}
		registers = append(registers, value)
	}
	return registers, impl.OK
}

// jetsAlong are constants plus so many times the variable 0, and the variable 1
// for one of them if there is such a one.
func jetsAlong(args, dir []int64, one int) []jet {
	var list []jet
	for k, arg := range args {
		value := constantJet(arg).plus(dir[k], jet{unitOf(0): 1})
		if k == one {
			value = value.plus(1, jet{unitOf(1): 1})
		}
		list = append(list, value)
	}
	return list
}

// weighted is the sum of the polynomials of the outs, multiplied by weights.
func weighted(tape impl.Tape, registers []jet, weights []int64) jet {
	sum := jet{}
	for k, out := range tape.Outs {
		sum = sum.plus(weights[k], registers[out])
	}
	return sum
}

// picked are the elements of a list with some indices.
func picked[T any](list []T, indices []int64) []T {
	var result []T
	for _, k := range indices {
		result = append(result, list[k])
	}
	return result
}

// fineTapes calls a test with many tapes that have values at some arguments: such
// that are made without any pattern, and such that are recorded.
func fineTapes(t *testing.T, count int, check func(v *invention, tape impl.Tape, args []int64)) {
	t.Helper()
	done := 0
	for seed := range int64(count) {
		v := inventions(seed + 44000)
		inputs := v.Int63n(4)
		tape, args := v.tape(inputs, 1+v.Intn(25)), v.numbers(inputs)
		if _, code := impl.RunTape(tape, args); code == impl.OK {
			done++
			check(v, tape, args)
		}
		v, p, args := differentiable(seed + 55000)
		f := int64(len(p.Funcs) - 1)
		if tape = recorded(t, p, f, args); len(tape.Code) < 200 {
			done++
			check(v, tape, args)
		}
	}
	if done < count {
		t.Errorf("%d tapes out of twice %d", done, count)
	}
}

package tests

import (
	"fmt"
	"slices"
	"strings"
	"testing"

	"loop.example/g01091/impl"
)

// shortenings are the functions of the section Shorter tapes, with other ways to
// the same results.
func shortenings() []struct {
	name string
	call func(tape impl.Tape) (impl.Tape, int64)
	want func(tape impl.Tape) impl.Tape
} {
	return []struct {
		name string
		call func(tape impl.Tape) (impl.Tape, int64)
		want func(tape impl.Tape) impl.Tape
	}{
		{"TrimTape", impl.TrimTape, trimmedSlowly},
		{"FoldTape", impl.FoldTape, foldedSlowly},
		{"ShareTape", impl.ShareTape, sharedSlowly},
		{"OptimizeTape", impl.OptimizeTape, func(tape impl.Tape) impl.Tape {
			return trimmedSlowly(sharedSlowly(foldedSlowly(tape)))
		}},
	}
}

// without is a tape without one register, in whose place another one is read.
func without(tape impl.Tape, register, other int64) impl.Tape {
	move := func(k int64) int64 {
		if k == register {
			k = other
		}
		if k > register {
			k--
		}
		return k
	}
	short := impl.Tape{Inputs: tape.Inputs}
	for k, instr := range tape.Code {
		if operands(instr.Op) > 0 {
			instr.A = move(instr.A)
		}
		if operands(instr.Op) > 1 {
			instr.B = move(instr.B)
		}
		if int64(k) != register {
			short.Code = append(short.Code, instr)
		}
	}
	for _, guard := range tape.Guards {
		guard.Reg = move(guard.Reg)
		short.Guards = append(short.Guards, guard)
	}
	for _, out := range tape.Outs {
		short.Outs = append(short.Outs, move(out))
	}
	return short
}

// isRead tells whether something reads a register.
func isRead(tape impl.Tape, register int64) bool {
	for _, instr := range tape.Code {
		if slices.Contains(operandsOf(instr), register) {
			return true
		}
	}
	for _, guard := range tape.Guards {
		if guard.Reg == register {
			return true
		}
	}
	return slices.Contains(tape.Outs, register)
}

// trimmedSlowly takes off one instruction after the other that nothing reads.
func trimmedSlowly(tape impl.Tape) impl.Tape {
	for k := range tape.Code {
		if !isRead(tape, int64(k)) {
			return trimmedSlowly(without(tape, int64(k), 0))
		}
	}
	return tape
}

// foldedSlowly folds one instruction after the other, the last one that is
// possible first.
func foldedSlowly(tape impl.Tape) impl.Tape {
	tape = copyOfTape(tape)
	for k := len(tape.Code) - 1; k >= 0; k-- {
		instr := tape.Code[k]
		var kids []int64
		for _, operand := range operandsOf(instr) {
			if tape.Code[operand].Op == impl.OpNum {
				kids = append(kids, tape.Code[operand].Num)
			}
		}
		if len(kids) == 0 || len(kids) < operands(instr.Op) || instr.Op == impl.OpDiv && kids[1] == 0 {
			continue
		}
		tape.Code[k] = tapeNum(arithmetic(kindOfOp(instr.Op), kids))
		return foldedSlowly(tape)
	}
	return tape
}

// sharedSlowly takes off one instruction after the other that is equal to an
// earlier one.
func sharedSlowly(tape impl.Tape) impl.Tape {
	tape = copyOfTape(tape)
	for k, instr := range tape.Code {
		if (instr.Op == impl.OpAdd || instr.Op == impl.OpMul) && instr.A > instr.B {
			tape.Code[k] = tapeOf(instr.Op, instr.B, instr.A)
		}
	}
	for k, instr := range tape.Code {
		if first := slices.Index(tape.Code, instr); first < k {
			return sharedSlowly(without(tape, int64(k), int64(first)))
		}
	}
	var guards []impl.Guard
	for _, guard := range tape.Guards {
		if !slices.Contains(guards, guard) {
			guards = append(guards, guard)
		}
	}
	tape.Guards = guards
	return tape
}

// lines is a text with a line for each part between semicolons.
func lines(text string) string { return strings.ReplaceAll(text, ";", "\n") + "\n" }

// TestP9ByHand has, for two inputs, lines behind "tape 2", and what they become.
func TestP9ByHand(t *testing.T) {
	for _, c := range []struct{ name, text, want string }{
		{"TrimTape", "in 0;out 0", "in 0;out 0"}, {"TrimTape", "in 0;in 1;out 1", "in 1;out 0"}, {"TrimTape", "in 0;in 1;zero 0;out 1", "in 0;in 1;zero 0;out 1"}, {"TrimTape", "num 1;in 0;num 2;in 1;mul 1 3;neg 3;out 4 1 4", "in 0;in 1;mul 0 1;out 2 0 2"},
		{"TrimTape", "in 0;neg 0;neg 1;neg 2;other 2;out 0", "in 0;neg 0;neg 1;other 2;out 0"}, {"TrimTape", "in 0;num 0;div 0 1;out 0", "in 0;out 0"}, {"TrimTape", "in 0;num 0;div 0 1;zero 2;zero 2;other 2;out 0", "in 0;num 0;div 0 1;zero 2;zero 2;other 2;out 0"},
		{"TrimTape", "num 5;in 0;in 1;out 1", "in 0;out 0"}, {"TrimTape", "num 5;num 6;neg 1;out 2", "num 6;neg 0;out 1"}, {"TrimTape", "num 3;num 3;in 0;in 0;out 1 3", "num 3;in 0;out 0 1"}, {"TrimTape", "in 0;in 1;sub 1 1;add 0 0;out 2", "in 1;sub 0 0;out 1"}, {"TrimTape", "in 1;in 0;in 1;neg 2;zero 1;out 3", "in 0;in 1;neg 1;zero 0;out 2"},
		{"FoldTape", "in 0;out 0", "in 0;out 0"}, {"FoldTape", "num 2;num 3;add 0 1;sub 0 1;mul 0 1;div 0 1;neg 0;out 6", "num 2;num 3;num 5;num 1000002;num 6;num 333335;num 1000001;out 6"}, {"FoldTape", "num 4;in 0;add 0 1;add 1 0;sub 0 1;mul 1 0;div 0 1;div 1 0;neg 1;out 2", "num 4;in 0;add 0 1;add 1 0;sub 0 1;mul 1 0;div 0 1;div 1 0;neg 1;out 2"},
		{"FoldTape", "num 2;mul 0 0;mul 1 1;neg 2;add 3 0;out 4", "num 2;num 4;num 16;num 999987;num 999989;out 4"}, {"FoldTape", "num 0;num 3;div 1 0;div 0 0;div 0 1;neg 2;add 3 4;out 5", "num 0;num 3;div 1 0;div 0 0;num 0;neg 2;add 3 4;out 5"}, {"FoldTape", "num 3;sub 0 0;div 0 1;neg 2;out 3", "num 3;num 0;div 0 1;neg 2;out 3"}, {"FoldTape", "num 0;neg 0;add 1 1;zero 2;zero 2;out 2 2", "num 0;num 0;num 0;zero 2;zero 2;out 2 2"},
		{"FoldTape", "in 0;sub 0 0;num 0;mul 0 2;add 1 1;out 4", "in 0;sub 0 0;num 0;mul 0 2;add 1 1;out 4"}, {"FoldTape", "in 1;num 7;neg 1;add 0 2;mul 2 2;out 3", "in 1;num 7;num 999996;add 0 2;num 49;out 3"}, {"FoldTape", "num 1000002;num 1000002;mul 0 1;add 0 1;div 2 3;out 4", "num 1000002;num 1000002;num 1;num 1000001;num 500001;out 4"},
		{"ShareTape", "in 0;in 0;mul 0 1;mul 1 0;num 1;out 2 3", "in 0;mul 0 0;num 1;out 1 1"}, {"ShareTape", "in 0;in 1;in 0;in 1;out 3 2", "in 0;in 1;out 1 0"}, {"ShareTape", "num 3;num 4;num 3;in 0;in 1;out 2 1", "num 3;num 4;in 0;in 1;out 0 1"}, {"ShareTape", "num 0;in 0;out 0 1", "num 0;in 0;out 0 1"}, {"ShareTape", "in 1;num 1;neg 0;neg 0;out 3", "in 1;num 1;neg 0;out 2"},
		{"ShareTape", "in 0;in 1;add 0 1;add 1 0;out 3 2", "in 0;in 1;add 0 1;out 2 2"}, {"ShareTape", "in 0;in 1;add 1 0;add 0 1;out 3", "in 0;in 1;add 0 1;out 2"}, {"ShareTape", "in 0;in 1;mul 1 0;out 2", "in 0;in 1;mul 0 1;out 2"}, {"ShareTape", "in 0;in 1;mul 1 0;mul 0 1;add 1 0;out 2 3 4", "in 0;in 1;mul 0 1;add 0 1;out 2 2 3"}, {"ShareTape", "in 0;in 1;sub 0 1;sub 1 0;div 0 1;div 1 0;sub 1 0;div 0 1;out 6 7", "in 0;in 1;sub 0 1;sub 1 0;div 0 1;div 1 0;out 3 4"},
		{"ShareTape", "in 0;in 1;in 0;sub 1 0;sub 1 2;add 2 1;add 1 0;out 4 5 6", "in 0;in 1;sub 1 0;add 0 1;out 2 3 3"}, {"ShareTape", "in 0;in 1;in 0;neg 1;add 3 2;add 0 3;out 4 5", "in 0;in 1;neg 1;add 0 2;out 3 3"}, {"ShareTape", "in 0;neg 0;neg 1;neg 0;neg 3;sub 2 4;out 5", "in 0;neg 0;neg 1;sub 2 2;out 3"},
		{"ShareTape", "in 0;in 0;zero 0;zero 1;other 0;zero 1;other 1;out 1", "in 0;zero 0;other 0;out 0"}, {"ShareTape", "in 0;in 1;zero 1;other 1;zero 0;zero 1;out 1", "in 0;in 1;zero 1;other 1;zero 0;out 1"}, {"ShareTape", "num 1;num 0;div 0 1;div 0 1;out 3 2", "num 1;num 0;div 0 1;out 2 2"}, {"ShareTape", "num 2;num 3;mul 0 1;num 6;out 2 3", "num 2;num 3;mul 0 1;num 6;out 2 3"},
		{"OptimizeTape", "in 0;num 2;num 3;add 1 2;div 0 3;other 0;out 4", "in 0;num 5;div 0 1;other 0;out 2"}, {"OptimizeTape", "in 0;in 1;in 0;out 2", "in 0;out 0"}, {"OptimizeTape", "num 2;num 3;mul 0 1;num 6;in 0;mul 4 2;mul 3 4;out 5 6", "num 6;in 0;mul 0 1;out 2 2"}, {"OptimizeTape", "in 1;num 0;num 0;div 0 1;div 0 2;zero 1;zero 2;out 0", "in 1;num 0;zero 1;out 0"}, {"OptimizeTape", "in 1;num 0;div 1 1;div 1 1;neg 3;neg 2;out 4 5", "num 0;div 0 0;neg 1;out 2 2"},
		{"OptimizeTape", "in 0;num 1;sub 1 1;mul 0 2;add 3 0;add 0 3;out 5", "in 0;num 0;mul 0 1;add 0 2;out 3"}, {"OptimizeTape", "in 0;in 1;num 4;zero 2;out 1", "in 1;num 4;zero 1;out 0"},
	} {
		tape, want := taped(t, "tape 2\n"+lines(c.text)), "tape 2\n"+lines(c.want)
		for _, f := range shortenings() {
			if f.name != c.name {
				continue
			}
			if have := impl.TapeText(fineTape(t)(f.call(tape))); have != want {
				t.Errorf("%s of %s is\n%s, want\n%s", c.name, c.text, have, want)
			}
			sameTapes(t, "by another way", f.want(tape), taped(t, want))
		}
	}
}

// TestP9InstructionsThatBecomeEqual has those that are equal only with other
// operands in place of theirs, in several rounds.
func TestP9InstructionsThatBecomeEqual(t *testing.T) {
	text, want := "tape 1\nin 0\nin 0\n", "tape 1\nin 0\n"
	for k := range 20 {
		text += fmt.Sprintf("neg %d\nneg %d\n", 2*k, 2*k+1)
		want += fmt.Sprintf("neg %d\n", k)
	}
	short := fineTape(t)(impl.ShareTape(taped(t, text+"zero 40\nzero 41\nout 41 40\n")))
	sameTapes(t, "a chain", short, taped(t, want+"zero 20\nout 20 20\n"))
	long := "tape 0\nnum 3\n"
	for k := range impl.MaxTape - 1 {
		long += fmt.Sprintf("mul %d %d\n", k, k)
	}
	short = fineTape(t)(impl.OptimizeTape(taped(t, long+"out 3199\n")))
	number := impl.Power(3, 1)
	for range impl.MaxTape - 1 {
		number = impl.Times(number, number)
	}
	sameTapes(t, "squares of numbers", short, taped(t, fmt.Sprintf("tape 0\nnum %d\nout 0\n", number)))
}

// TestP9ManyTapes compares with other ways to the same results.
func TestP9ManyTapes(t *testing.T) {
	shorter := map[string]int{}
	check := func(tape impl.Tape) {
		for _, f := range shortenings() {
			short := fineTape(t)(f.call(tape))
			sameTapes(t, f.name+" of\n"+impl.TapeText(tape), short, f.want(tape))
			checkShort(t, tape, short)
			sameTapes(t, f.name+" twice", fineTape(t)(f.call(short)), short)
			if len(short.Code) < len(tape.Code) || f.name == "FoldTape" && !impl.SameTape(short, tape) {
				shorter[f.name]++
			}
		}
	}
	for seed := range int64(500) {
		v := inventions(seed + 600)
		check(v.tape(v.Int63n(4), 1+v.Intn(40)))
	}
	for seed := range int64(200) {
		_, p, args := differentiable(seed + 800)
		if tape := recorded(t, p, int64(len(p.Funcs)-1), args); len(tape.Code) < 150 {
			check(tape)
		}
	}
	for _, f := range shortenings() {
		if shorter[f.name] < 200 {
			t.Errorf("%s makes so many tapes shorter: %d", f.name, shorter[f.name])
		}
	}
}

// checkShort checks what all ways to shorter tapes leave as it is.
func checkShort(t *testing.T, tape, short impl.Tape) {
	t.Helper()
	if short.Inputs != tape.Inputs || len(short.Outs) != len(tape.Outs) || len(short.Code) > len(tape.Code) || len(short.Guards) > len(tape.Guards) {
		t.Errorf("%s becomes %s", impl.TapeText(tape), impl.TapeText(short))
	}
	for k, out := range tape.Outs {
		want, have := fine(t)(impl.InputsOf(tape, out)), fine(t)(impl.InputsOf(short, short.Outs[k]))
		same(t, "the inputs of an output", have, want)
	}
}

// TestP9ShorterTapesDoTheSame runs tapes and shorter ones at many arguments.
func TestP9ShorterTapesDoTheSame(t *testing.T) {
	counts := map[int64]int{}
	fineTapes(t, 150, func(v *invention, tape impl.Tape, args []int64) {
		for _, f := range shortenings() {
			short := fineTape(t)(f.call(tape))
			checkSameRuns(t, v, tape, short, args)
			for range 5 {
				other := v.numbers(tape.Inputs)
				values, code := impl.RunTape(tape, other)
				counts[code]++
				if code == impl.OK {
					checkSameRuns(t, v, tape, short, other)
				} else if f.name == "FoldTape" || f.name == "ShareTape" {
					_, code = impl.RunTape(short, other)
					sameNumber(t, "the code where a divisor is 0", code, impl.ErrZero)
				} else if have, code := impl.RunTape(short, other); code != impl.OK && code != impl.ErrZero {
					t.Errorf("%v with the code %d, before %v", have, code, values)
				}
			}
		}
	})
	if counts[impl.OK] < 1000 || counts[impl.ErrZero] < 100 {
		t.Errorf("so often divisors are 0: %v", counts)
	}
}

func checkSameRuns(t *testing.T, v *invention, tape, short impl.Tape, args []int64) {
	t.Helper()
	weights, dir := v.numbers(int64(len(tape.Outs))), v.numbers(tape.Inputs)
	hold, _ := impl.GuardsHold(tape, args)
	if have, code := impl.GuardsHold(short, args); have != hold || code != impl.OK {
		t.Errorf("the guards at %v: %v with the code %d, before %v", args, have, code, hold)
	}
	same(t, "RunTape", fine(t)(impl.RunTape(short, args)), fine(t)(impl.RunTape(tape, args)))
	same(t, "TapeReverse", fine(t)(impl.TapeReverse(short, args, weights)), fine(t)(impl.TapeReverse(tape, args, weights)))
	same(t, "TapeHessian", fine(t)(impl.TapeHessian(short, args, weights, dir)), fine(t)(impl.TapeHessian(tape, args, weights, dir)))
	lines := linesAlong(args, dir)
	sameRows(t, "TapeSeries", fineRows(t)(impl.TapeSeries(short, lines)), fineRows(t)(impl.TapeSeries(tape, lines)))
	values, slopes, _ := impl.TapeForward(short, args, dir)
	before, along, _ := impl.TapeForward(tape, args, dir)
	same(t, "the values of TapeForward", values, before)
	same(t, "the slopes of TapeForward", slopes, along)
}

// TestP9OptimizedTapesCannotBeMadeShorter in any way, and OptimizeTape is what its
// three steps do.
func TestP9OptimizedTapesCannotBeMadeShorter(t *testing.T) {
	fineTapes(t, 150, func(v *invention, tape impl.Tape, args []int64) {
		short := fineTape(t)(impl.OptimizeTape(tape))
		steps := fineTape(t)(impl.TrimTape(fineTape(t)(impl.ShareTape(fineTape(t)(impl.FoldTape(tape))))))
		sameTapes(t, "three steps", short, steps)
		for _, f := range shortenings() {
			sameTapes(t, f.name+" of an optimized tape", fineTape(t)(f.call(short)), short)
		}
		for k := range int64(len(short.Code)) {
			if !isRead(short, k) {
				t.Errorf("nothing reads the register %d of %s", k, impl.TapeText(short))
			}
		}
	})
}

// TestP9LargestTapes have most instructions and guards.
func TestP9LargestTapes(t *testing.T) {
	for _, tape := range largestTapes() {
		for _, f := range shortenings() {
			short := fineTape(t)(f.call(tape))
			checkShort(t, tape, short)
			sameTapes(t, f.name+" twice", fineTape(t)(f.call(short)), short)
		}
	}
	guards := fineTape(t)(impl.ShareTape(largestTapes()[1]))
	sameTapes(t, "equal guards", guards, taped(t, "tape 0\nnum 0\nother 0\nout 0\n"))
	equal := impl.Tape{Inputs: 1, Code: slices.Repeat([]impl.Instr{tapeIn(0)}, impl.MaxTape), Outs: []int64{0, impl.MaxTape - 1}}
	sameTapes(t, "equal instructions", fineTape(t)(impl.ShareTape(equal)), taped(t, "tape 1\nin 0\nout 0 0\n"))
	sameTapes(t, "instructions that are not needed", fineTape(t)(impl.TrimTape(equal)), taped(t, "tape 1\nin 0\nin 0\nout 0 1\n"))
}
